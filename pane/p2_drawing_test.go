package pane

import (
	"math/big"
	"slices"
	"testing"
)

var (
	red  = colour{200, 0, 0}
	blue = colour{0, 0, 100}
)

// bigSample reckons what a triangle has at a pixel with numbers of any size: red, green, blue and depth, or nothing.
func bigSample(a, b, c spot, x, y int) []int {
	e := func(a, b, p spot) *big.Int {
		n := func(i int) *big.Int { return big.NewInt(int64(i)) }
		return n(0).Sub(n(0).Mul(n(b.x-a.x), n(p.y-a.y)), n(0).Mul(n(b.y-a.y), n(p.x-a.x)))
	}
	area := e(a, b, c)
	if area.Sign() == 0 {
		return nil
	}
	if area.Sign() < 0 {
		b, c = c, b
		area.Neg(area)
	}
	p := spot{x: 16*x + 8, y: 16*y + 8}
	ends := [3][2]spot{{b, c}, {c, a}, {a, b}}
	corners := [3]spot{a, b, c}
	var sums [4]big.Int
	for i, s := range ends {
		w := e(s[0], s[1], p)
		up, right := s[1].y < s[0].y, s[1].y == s[0].y && s[1].x > s[0].x
		if w.Sign() < 0 || w.Sign() == 0 && !up && !right {
			return nil
		}
		k := corners[i]
		for j, value := range []int{int(k.colour[0]), int(k.colour[1]), int(k.colour[2]), k.depth} {
			sums[j].Add(&sums[j], new(big.Int).Mul(w, big.NewInt(int64(value))))
		}
	}
	out := make([]int, 4)
	for j := range sums {
		out[j] = int(sums[j].Div(&sums[j], area).Int64())
	}
	return out
}

// drawnOn draws a triangle on a pane of that size, with a depth of 5 and a colour of 1, 2, 3 where it is not covered.
func drawnOn(t *testing.T, w, h int, a, b, c spot) (covered int) {
	t.Helper()
	stream := text(1, w, h) + text(2, 3, 1, 2, 3, 0, 5, 0) + triangleOf(a, b, c)
	var want []Reply
	for y := range h {
		for x := range w {
			got := bigSample(a, b, c, x, y)
			if got == nil {
				got = []int{1, 2, 3, 5}
			} else {
				covered++
			}
			stream += text(13, 1, x, y, 13, 2, x, y)
			want = append(want, Reply{Pixel, got[0], got[1], got[2]}, Reply{Depth, got[3], 0, 0})
		}
	}
	for _, ways := range []int{0, 255} {
		if got := Draw(stream, ways); !slices.Equal(got, want) {
			t.Fatalf("P2: %v %v %v in ways %d:\n%v, want\n%v", a, b, c, ways, got, want)
		}
	}
	return covered
}

// TestCornersOfAllBits: corners at the ends of their range, and depths and colours at theirs.
func TestCornersOfAllBits(t *testing.T) {
	ends := []int{-32768, -32767, -256, -255, -1, 0, 8, 64, 127, 128, 255, 256, 32766, 32767}
	d := dice(11)
	throw := func() spot {
		c := d.bytes(3)
		s := spot{ends[d.below(14)], ends[d.below(14)], []int{0, 1, 255, 256, 32768, 65534, 65535}[d.below(7)], colour{c[0], c[1], c[2]}}
		if d.below(3) == 0 {
			s.colour = colour{255, 255, 255}
		}
		return s
	}
	some := 0
	for range 3000 {
		if drawnOn(t, 5, 6, throw(), throw(), throw()) > 0 {
			some++
		}
	}
	if some < 300 {
		t.Errorf("only %d triangles covered a pixel", some)
	}
	low, high := -32768, 32767
	white := colour{255, 255, 255}
	for _, l := range [][3]spot{
		{{high, high, 65535, white}, {low, high, 65535, white}, {high, low, 65535, white}},
		{{low, low, 0, red}, {high, high, 65535, white}, {low, high, 1, blue}},
		{{low, low, 0, red}, {high, high, 65535, white}, {high, low, 1, blue}},
	} {
		if drawnOn(t, 24, 24, l[0], l[1], l[2]) == 0 {
			t.Errorf("%v covers nothing", l)
		}
	}
}

// TestThrownTriangles: corners near the pane, many of them at pixels' middles.
func TestThrownTriangles(t *testing.T) {
	d := dice(12)
	throw := func() spot {
		c := d.bytes(3)
		return spot{d.coordinate(), d.coordinate(), d.depth(), colour{c[0], c[1], c[2]}}
	}
	for range 1500 {
		drawnOn(t, 1+d.below(9), 1+d.below(9), throw(), throw(), throw())
	}
}

// TestRoundedDown: between corners each number is the whole one at or next below.
func TestRoundedDown(t *testing.T) {
	// The middle of pixel (1, 0) lies a third of the way from the first corner to the second.
	a, b, c := spot{8, 8, 0, colour{0, 3, 1}}, spot{56, 8, 0, colour{2, 0, 1}}, spot{8, 56, 0, colour{9, 9, 9}}
	for _, depths := range [][3]int{{0, 2, 0}, {0, 3, 0}, {0, 4, 1}, {1, 0, 0}, {65535, 65535, 65535}, {65535, 65534, 65534}, {65534, 65535, 65534}} {
		a.depth, b.depth = depths[0], depths[1]
		want := depths[2]
		if depths[1] == 3 {
			want = 1
		}
		wants(t, triangleOf(a, b, c)+text(13, 1, 1, 0, 13, 2, 1, 0), Reply{Pixel, 0, 2, 1}, Reply{Kind: Depth, A: want})
	}
}

// painted is which pixels of a pane of that size a stream gives a red, row by row.
func painted(stream string, w, h int) string {
	out := ""
	stream = text(1, w, h) + stream
	for y := range h {
		for x := range w {
			got := Draw(stream+text(13, 1, x, y), 0)
			if got[len(got)-1].A != 0 {
				out += "#"
			} else {
				out += "."
			}
		}
		out += "/"
	}
	return out
}

// TestBorders: middles on an edge belong to it only if it goes up or level to the right.
func TestBorders(t *testing.T) {
	for _, c := range []struct {
		stream, want string
	}{
		{flatOf(8, 8, 56, 8, 8, 56, 0, red), "###../##.../#..../...../...../"},         // on top, at the left
		{flatOf(56, 56, 8, 56, 56, 8, 0, red), "...../..#../.##../...../...../"},       // at the bottom, at the right
		{flatOf(8, 8, 56, 8, 56, 56, 0, red), "###../.##../..#../...../...../"},        // the slope goes up at the left: it belongs
		{flatOf(8, 8, 56, 56, 8, 56, 0, red), "...../#..../##.../...../...../"},        // and down at the right: it does not
		{flatOf(40, 8, 72, 40, 40, 72, 0, red), "...../..#../..##./..#../...../"},      // two slopes at the right
		{flatOf(40, 8, 40, 72, 8, 40, 0, red), "...../.#.../##.../.#.../...../"},       // two at the left
		{flatOf(8, 40, 40, 8, 72, 40, 0, red), "...../.##../...../...../...../"},       // a floor
		{flatOf(8, 40, 72, 40, 40, 72, 0, red), "...../...../####./.##../...../"},      // a roof
		{flatOf(0, 0, 16, 0, 0, 16, 0, red), "...../...../...../...../...../"},         // a slope through a middle
		{flatOf(16, 16, 0, 16, 16, 0, 0, red), "#..../...../...../...../...../"},       // the same one from below
		{flatOf(0, 0, 17, 0, 0, 16, 0, red), "#..../...../...../...../...../"},         // just behind it
		{flatOf(9, 0, 9, 80, 80, 80, 0, red), "...../.#.../.##../.###./.####/"},        // middles just outside
		{flatOf(8, 8, 8, 8, 72, 72, 0, red), "...../...../...../...../...../"},         // no area
		{flatOf(8, 8, 40, 40, 72, 72, 0, red), "...../...../...../...../...../"},       // none
		{flatOf(-80, 40, 0, 40, 160, 40, 0, red), "...../...../...../...../...../"},    // none
		{flatOf(-200, 0, -100, 0, -200, 80, 0, red), "...../...../...../...../...../"}, // beside the pane
	} {
		if got := painted(c.stream, 5, 5); got != c.want {
			t.Errorf("P2: %q: %s, want %s", c.stream, got, c.want)
		}
	}
}

// TestFaces: the order of the corners tells front from back, and nothing else hangs on it.
func TestFaces(t *testing.T) {
	l := []spot{{8, 0, 10, colour{255, 0, 7}}, {128, 24, 2000, colour{0, 255, 70}}, {30, 120, 65000, colour{9, 90, 255}}}
	picture := readAll(triangleOf(l[0], l[1], l[2]))
	want := Draw(picture, 0)
	nothing := Draw(readAll(text(9)+text(make([]int, 27)...)), 0)
	for _, order := range [][3]int{{0, 1, 2}, {1, 2, 0}, {2, 0, 1}, {0, 2, 1}, {2, 1, 0}, {1, 0, 2}} {
		front := (order[1]-order[0]+3)%3 == 1
		s := triangleOf(l[order[0]], l[order[1]], l[order[2]])
		for faces := range 3 {
			got := Draw(readAll(text(6, faces)+s), 0)
			expected := want
			if faces == 1 && !front || faces == 2 && front {
				expected = nothing
			}
			for i := range got {
				// Faults stand two bytes further on.
				if got[i].Kind == Fault {
					got[i].B -= 2
				}
			}
			if !slices.Equal(got, expected) {
				t.Errorf("P2: faces %d, order %v: %v, want %v", faces, order, got, expected)
			}
		}
	}
}

// results is what each test says to less, equal and greater.
var results = [8][3]bool{
	{false, false, false}, {true, false, false}, {false, true, false}, {true, true, false},
	{false, false, true}, {true, false, true}, {false, true, true}, {true, true, true},
}

func TestDepthTests(t *testing.T) {
	for test, passing := range results {
		for _, there := range []int{1, 255, 256, 32767, 32768, 65534} {
			for i, comes := range [][]int{{there - 1, 0}, {there}, {there + 1, 65535}} {
				for _, depth := range comes {
					for written := range 2 {
						stream := text(2, 3, 1, 2, 3, there>>8, there, 0) + text(3, test, written) + wholeOf(depth, red)
						c, now := colour{1, 2, 3}, there
						if passing[i] {
							c = red
							if written == 1 {
								now = depth
							}
						}
						wants(t, stream+read(3, 4), pixel(c, now, 0)...)
					}
				}
			}
		}
	}
}

// TestStencilTests: the value against the stencil, of both only the bits that are compared.
func TestStencilTests(t *testing.T) {
	d := dice(13)
	bytes := []int{0, 1, 15, 16, 127, 128, 240, 254, 255}
	for test, passing := range results {
		for range 60 {
			value, there, which := bytes[d.below(9)], bytes[d.below(9)], bytes[d.below(9)]
			if d.below(4) == 0 {
				there = value ^ 255&^which
			}
			i := 1
			if value&which < there&which {
				i = 0
			} else if value&which > there&which {
				i = 2
			}
			stream := text(2, 4, 0, 0, 0, 0, 0, there) + text(4, test, value, which, 255, 0, 0, 0) + wholeOf(9, red)
			if passing[i] {
				wants(t, stream+read(0, 7), pixel(red, 9, there)...)
			} else {
				wants(t, stream+read(0, 7), pixel(colour{}, 65535, there)...)
			}
		}
	}
}

// becomes is what is done with a stencil, with no bit held back.
func becomes(done, old, value int) int {
	switch done {
	case 1:
		return 0
	case 2:
		return value
	case 3:
		return min(old+1, 255)
	case 4:
		return max(old-1, 0)
	case 5:
		return 255 - old
	case 6:
		return (old + 1) % 256
	case 7:
		return (old + 255) % 256
	}
	return old
}

// TestWhatIsDoneWithAStencil: in each of the three cases, with bits that are written and some that are not.
func TestWhatIsDoneWithAStencil(t *testing.T) {
	for done := range 8 {
		for _, old := range []int{0, 1, 2, 85, 127, 128, 170, 254, 255} {
			for _, writes := range []int{255, 0, 1, 15, 128, 240, 85} {
				for event := range 3 {
					// What is done in the other cases would be seen.
					other := (done + 3) % 8
					acts := []int{other, other, other}
					acts[event] = done
					stencilTest, depthTest := []int{0, 7, 7}[event], []int{7, 0, 7}[event]
					stream := text(2, 4, 0, 0, 0, 0, 0, old) + text(3, depthTest, 1) +
						text(4, stencilTest, 77, 255, writes, acts[0], acts[1], acts[2]) + wholeOf(9, red)
					now := becomes(done, old, 77)&writes | old&(255-writes)
					want := pixel(colour{}, 65535, now)
					if event == 2 {
						want = pixel(red, 9, now)
					}
					got := Draw(stream+read(2, 2), 0)
					if !slices.Equal(got, want) {
						t.Fatalf("P2: %d done with %d, writes %d, case %d: %v, want %v", done, old, writes, event, got, want)
					}
				}
			}
		}
	}
}

// TestBothTestsFail: the stencil's comes first, and its failing is what counts.
func TestBothTestsFail(t *testing.T) {
	wants(t, text(3, 0, 1)+text(4, 0, 9, 255, 255, 2, 5, 3)+wholeOf(1, red)+read(0, 0), pixel(colour{}, 65535, 9)...)
}

// TestTheValueIsWrittenWhole: of the value all bits that are written become the stencil's, compared or not.
func TestTheValueIsWrittenWhole(t *testing.T) {
	wants(t, text(4, 2, 240, 15, 255, 1, 1, 2)+wholeOf(1, red)+read(0, 0), pixel(red, 1, 240)...)
}

func TestColoursThatAreWritten(t *testing.T) {
	for sum := range 8 {
		want := colour{1, 2, 3}
		for i, n := range []uint8{50, 60, 70} {
			if sum>>i&1 == 1 {
				want[i] = n
			}
		}
		stream := text(2, 1, 1, 2, 3, 0, 0, 0) + text(7, sum) + text(4, 7, 0, 255, 255, 0, 0, 3) + text(10, 0) +
			wholeOf(8, colour{50, 60, 70}) + text(11, 0, 14, 0)
		// What is not written holds up neither the depth nor the stencil nor the query.
		wants(t, stream+read(6, 1), append([]Reply{{Count, 0, 64, 0}}, pixel(want, 8, 1)...)...)
	}
}

// TestOnlyTheWindow: every window of a pane over four tiles, and nothing beside it.
func TestOnlyTheWindow(t *testing.T) {
	const w, h = 6, 7
	for x := range w + 1 {
		for y := range h + 1 {
			for columns := range w - x + 1 {
				for rows := range h - y + 1 {
					stream := text(1, w, h) + text(5, x, y, columns, rows) + text(10, 0) + wholeOf(3, red) + text(11, 0, 14, 0)
					want := []Reply{{Count, 0, columns * rows, 0}}
					for py := range h {
						for px := range w {
							stream += text(13, 1, px, py)
							if px >= x && px < x+columns && py >= y && py < y+rows {
								want = append(want, Reply{Pixel, 200, 0, 0})
							} else {
								want = append(want, Reply{Pixel, 0, 0, 0})
							}
						}
					}
					if got := Draw(stream, 0); !slices.Equal(got, want) {
						t.Fatalf("P2: window %d %d %d %d: %v", x, y, columns, rows, got)
					}
				}
			}
		}
	}
}

// TestInTheOrderOfTheCommands: what is laid down holds for the triangles behind it, and later ones lie over earlier ones.
func TestInTheOrderOfTheCommands(t *testing.T) {
	wants(t, wholeOf(3, red)+wholeOf(4, blue)+read(1, 1), pixel(blue, 4, 0)...)
	wants(t, wholeOf(4, blue)+wholeOf(3, red)+read(1, 1), pixel(red, 3, 0)...)
	wants(t, wholeOf(3, red)+text(3, 1, 1)+read(1, 1)+wholeOf(4, blue)+read(1, 1), append(pixel(red, 3, 0), pixel(red, 3, 0)...)...)
	wants(t, wholeOf(3, red)+text(7, 4)+wholeOf(4, blue)+read(1, 1), pixel(colour{200, 0, 100}, 4, 0)...)
	wants(t, wholeOf(3, red)+text(2, 1, 9, 9, 9, 0, 0, 0)+read(1, 1), pixel(colour{9, 9, 9}, 3, 0)...)
	wants(t, wholeOf(3, red)+text(1, 8, 8)+read(1, 1), atFirst...)
	wants(t, text(5, 0, 0, 1, 1)+text(1, 9, 9)+wholeOf(3, red)+read(8, 8), pixel(red, 3, 0)...)
	wants(t, text(3, 8, 1)+text(7, 8)+text(6, 3)+wholeOf(3, red)+read(1, 1),
		append([]Reply{fault(ErrArg, 0), fault(ErrArg, 3), fault(ErrArg, 5)}, pixel(red, 3, 0)...)...)
	wants(t, wholeOf(3, red)[:27]+wholeOf(3, red)[:0], fault(ErrText, 0))
}

// TestDrawnOnAClear: one pixel of a tile is drawn, and the others keep what the clear left.
func TestDrawnOnAClear(t *testing.T) {
	clear := text(2, 7, 1, 2, 3, 4, 5, 6)
	cleared := pixel(colour{1, 2, 3}, 4*256+5, 6)
	one := text(4, 7, 99, 255, 255, 0, 0, 2) + flatOf(40, 40, 41, 40, 40, 41, 7, blue)
	for _, stream := range []string{text(12, 16) + clear + one, text(12, 0) + clear + one, text(12, 0) + clear + text(12, 16) + clear + text(12, 0) + one} {
		for y := range 8 {
			for x := range 8 {
				want := cleared
				if x == 2 && y == 2 {
					want = pixel(blue, 7, 99)
				}
				wants(t, stream+read(x, y), want...)
			}
		}
		wants(t, stream+clear+read(2, 2), cleared...)
		wants(t, stream+text(12, 16)+clear+read(2, 2)+read(3, 2), append(slices.Clone(cleared), cleared...)...)
	}
}

// TestTilesOfABox: those of the pane that have pixels of it, each once, and none for an empty box.
func TestTilesOfABox(t *testing.T) {
	for _, c := range []struct {
		box  box
		want [][2]int
	}{
		{box{0, 0, 4, 4}, [][2]int{{0, 0}}},
		{box{3, 3, 2, 2}, [][2]int{{0, 0}, {4, 0}, {0, 4}, {4, 4}}},
		{box{5, 6, 3, 2}, [][2]int{{4, 4}}},
		{box{7, 8, 2, 1}, [][2]int{{4, 8}, {8, 8}}},
		{box{5, 5, 0, 9}, nil},
		{box{5, 5, 9, 0}, nil},
	} {
		var got [][2]int
		for tile := range c.box.eachTile {
			if tile.columns != 4 || tile.rows != 4 {
				t.Errorf("a tile is %v", tile)
			}
			got = append(got, [2]int{tile.x, tile.y})
		}
		if !slices.Equal(got, c.want) {
			t.Errorf("tiles of %v: %v, want %v", c.box, got, c.want)
		}
		for tile := range c.box.eachTile {
			if tile.x != c.want[0][0] || tile.y != c.want[0][1] {
				t.Errorf("first tile of %v: %v", c.box, tile)
			}
			break
		}
	}
}
