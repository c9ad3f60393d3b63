package pane

const (
	cornerBytes    = 9
	sixteenthsBits = 4
	sixteenths     = 1 << sixteenthsBits // of a pixel: what corners are told in
)

// place is where something lies, in sixteenths of a pixel. Its numbers have 64
// bits on every machine, as products of them and of depths need more than 32.
type place struct {
	x, y int64
}

func middleOf(x, y int) place {
	return place{sixteenths*int64(x) + sixteenths/2, sixteenths*int64(y) + sixteenths/2}
}

// What a corner brings beside its place.
const (
	redValue = iota
	greenValue
	blueValue
	depthValue
	cornerValues // how many there are
)

type corner struct {
	place
	values [cornerValues]int64
}

func readCorner(args string) corner {
	c := corner{place: place{int64(signedBytes(args)), int64(signedBytes(args[2:]))}}
	c.values[depthValue] = int64(twoBytes(args[4:]))
	c.values[redValue] = int64(args[6])
	c.values[greenValue] = int64(args[7])
	c.values[blueValue] = int64(args[8])
	return c
}

// side is a triangle's edge, from one corner to the next.
type side struct {
	from, to place
}

// of is E of the document: above 0 for a place on one side, below 0 on the other.
func (s side) of(p place) int64 {
	return (s.to.x-s.from.x)*(p.y-s.from.y) - (s.to.y-s.from.y)*(p.x-s.from.x)
}

// hasBorder tells whether pixels whose middle lies on the edge belong to it. Of an
// edge and the same one backwards just one has them, so that triangles that lie
// beside one another share none.
func (s side) hasBorder() bool {
	return s.to.y < s.from.y || s.to.y == s.from.y && s.to.x > s.from.x
}

// takes tells by E of a pixel's middle whether the edge has the pixel inside.
func (s side) takes(e int64) bool {
	return e > 0 || e == 0 && s.hasBorder()
}

// leavesOut tells whether no pixel of a box is inside. What lies outside of an edge
// has no dents, so it has all of a box if it has the box's corners.
func (s side) leavesOut(b box) bool {
	right, bottom := b.x+b.columns-1, b.y+b.rows-1
	for _, x := range [2]int{b.x, right} {
		for _, y := range [2]int{b.y, bottom} {
			if s.takes(s.of(middleOf(x, y))) {
				return false
			}
		}
	}
	return true
}

// triangle has its corners in the order in which the area is above 0, or is empty.
type triangle struct {
	corners [3]corner
	area    int64
	front   bool
	bounds  box // of the pixels whose middles may lie in it, in the pane or not
}

func readTriangle(args string) triangle {
	var t triangle
	for i := range t.corners {
		t.corners[i] = readCorner(args[i*cornerBytes:])
	}
	t.area = t.side(2).of(t.corners[2].place)
	t.front = t.area > 0
	if t.area < 0 {
		t.corners[1], t.corners[2] = t.corners[2], t.corners[1]
		t.area = -t.area
	}
	t.bounds = t.boundsOfMiddles()
	return t
}

func (t *triangle) boundsOfMiddles() box {
	across, down := spanOf(t.corners[0].x), spanOf(t.corners[0].y)
	for _, c := range t.corners {
		across, down = across.with(c.x), down.with(c.y)
	}
	x, columns := middlesIn(across)
	y, rows := middlesIn(down)
	return box{x, y, columns, rows}
}

// middlesIn is the first pixel of a line whose middle lies in a span of places, and
// how many do.
func middlesIn(places span[int64]) (first, count int) {
	// Shifts round down, below 0 as well; the first pixel is to be rounded up to.
	first = int((places.least - sixteenths/2 + sixteenths - 1) >> sixteenthsBits)
	last := int((places.most - sixteenths/2) >> sixteenthsBits)
	return first, max(0, last-first+1)
}

// depths is what the depths lie in that the triangle brings: what lies between
// corners is never beyond them.
func (t *triangle) depths() span[uint16] {
	all := spanOf(uint16(t.corners[0].values[depthValue]))
	for _, c := range t.corners {
		all = all.with(uint16(c.values[depthValue]))
	}
	return all
}

// side is the one that lies opposite to a corner.
func (t *triangle) side(corner int) side {
	return side{t.corners[(corner+1)%3].place, t.corners[(corner+2)%3].place}
}

// weights is how much each corner counts at a place, in parts of the area; and
// whether a pixel with its middle there is covered.
func (t *triangle) weights(p place) (parts [3]int64, covered bool) {
	for i := range parts {
		s := t.side(i)
		parts[i] = s.of(p)
		if !s.takes(parts[i]) {
			return parts, false
		}
	}
	return parts, true
}

// between is what the triangle has of one of its corners' values where they count
// for so much. No part is below 0 at a covered pixel, so the division rounds down.
func (t *triangle) between(parts [3]int64, value int) int64 {
	sum := int64(0)
	for i, c := range t.corners {
		sum += parts[i] * c.values[value]
	}
	return sum / t.area
}

// sample is what a triangle brings to a pixel.
type sample struct {
	x, y   int
	colour colour
	depth  uint16
}

// sampleAt answers false, if the pixel is not covered.
func (t *triangle) sampleAt(x, y int) (sample, bool) {
	parts, covered := t.weights(middleOf(x, y))
	if !covered {
		return sample{}, false
	}
	s := sample{x: x, y: y, depth: uint16(t.between(parts, depthValue))}
	for i := range s.colour {
		s.colour[i] = uint8(t.between(parts, redValue+i))
	}
	return s, true
}
