package pane

import (
	"cmp"
	"slices"
	"testing"
)

// The ways are not to be seen in answers; so that they are there at all is looked for inside, and in Steps.

// binned is in which tiles of a pane of 12 by 12 a triangle waits, by their first pixel.
func binned(rules, triangle string, ways int) [][2]int {
	d := newDrawer(text(1, 12, 12)+rules, ways|wayBins)
	d.work()
	d.drawTriangle(triangle[1:])
	var out [][2]int
	for tile, l := range d.bins {
		for range l {
			out = append(out, [2]int{tile.x, tile.y})
		}
	}
	slices.SortFunc(out, func(a, b [2]int) int { return cmp.Or(a[1]-b[1], a[0]-b[0]) })
	return out
}

func tilesAre(t *testing.T, rules, triangle string, ways int, want ...[2]int) {
	t.Helper()
	if got := binned(rules, triangle, ways); !slices.Equal(got, want) {
		t.Errorf("ways %d: %q waits in %v, want %v", ways, triangle, got, want)
	}
}

var allTiles = [][2]int{{0, 0}, {4, 0}, {8, 0}, {0, 4}, {4, 4}, {8, 4}, {0, 8}, {4, 8}, {8, 8}}

// TestBinsByTiles: a triangle waits in each tile that it is looked at in; edges and bounds make these fewer.
func TestBinsByTiles(t *testing.T) {
	small := flatOf(8, 8, 56, 8, 8, 56, 1, red) // in the first tile
	tilesAre(t, "", small, 0, allTiles...)
	tilesAre(t, "", small, wayEdges, [2]int{0, 0})
	tilesAre(t, "", small, wayBounds, [2]int{0, 0})
	tilesAre(t, text(5, 4, 4, 8, 1), small, 0, [2]int{4, 4}, [2]int{8, 4})
	tilesAre(t, text(5, 4, 4, 8, 1), small, wayEdges)
	tilesAre(t, text(5, 4, 4, 8, 1), small, wayBounds)
	tilesAre(t, text(5, 4, 4, 0, 1), small, 0)
	// Beside the window, or where nothing could change, it waits in none.
	tilesAre(t, text(5, 4, 4, 8, 1), small, wayUnseen)
	tilesAre(t, text(5, 4, 0, 8, 1), small, wayUnseen)
	tilesAre(t, text(5, 3, 0, 8, 1), small, wayUnseen, [2]int{0, 0}, [2]int{4, 0}, [2]int{8, 0})
	tilesAre(t, text(3, 7, 0, 7, 0), small, wayUnseen)
	tilesAre(t, text(3, 7, 0, 7, 0), small, 255-wayUnseen, [2]int{0, 0})
	corner := flatOf(8, 8, 184, 8, 8, 184, 1, red) // half of the pane, up to a slope
	tilesAre(t, "", corner, wayBounds, allTiles...)
	tilesAre(t, "", corner, wayEdges, [2]int{0, 0}, [2]int{4, 0}, [2]int{8, 0}, [2]int{0, 4}, [2]int{4, 4}, [2]int{0, 8})
	// The next tile's first column is a middle away, and its middles are on the bound.
	tilesAre(t, text(5, 0, 0, 12, 4), flatOf(8, 8, 71, 8, 8, 56, 1, red), wayBounds, [2]int{0, 0})
	tilesAre(t, text(5, 0, 0, 12, 4), flatOf(8, 8, 72, 8, 8, 56, 1, red), wayBounds, [2]int{0, 0}, [2]int{4, 0})
	// A window that cuts a tile makes less of it: the slope leaves out what is left.
	tilesAre(t, text(5, 4, 4, 4, 4), corner, wayEdges, [2]int{4, 4})
	tilesAre(t, text(5, 6, 6, 2, 2), corner, wayEdges)
	tilesAre(t, text(6, 2), corner, 0)
	tilesAre(t, "", flatOf(8, 8, 40, 40, 72, 72, 0, red), 0)
}

// TestWaitsTillSomethingElseComes: triangles do not end the waiting, and all else does, the end of the stream too.
func TestWaitsTillSomethingElseComes(t *testing.T) {
	table := commands()
	after := func(n int, stream string, ways int) *drawer {
		d := newDrawer(stream, ways)
		for range n {
			d.workNext(&table)
		}
		return d
	}
	whole, small := wholeOf(3, red), flatOf(8, 8, 56, 8, 8, 56, 1, blue)
	for _, ways := range []int{wayBins, 255} {
		d := after(3, whole+small+whole, ways)
		if len(d.bins) != 4 || len(d.bins[box{4, 4, 4, 4}]) < 2 || d.colours.at(0, 0) != (colour{}) {
			t.Errorf("three triangles wait: %v", d.bins)
		}
		if l := d.bins[box{0, 0, 4, 4}]; len(l) != 3 || l[1].corners[0].x != 8 || l[0] == l[2] {
			t.Errorf("they wait as they came: %v", l)
		}
		d.work()
		if len(d.bins) != 0 || d.colours.at(0, 0) != red {
			t.Errorf("none waits at the end: %v", d.bins)
		}
		for _, other := range append(slices.Clone(oneOfEach), text(1, 0, 0), text(14, 9), text(12, 64)) {
			if other[0] == 9 {
				continue
			}
			if d := after(3, whole+small+other, ways); len(d.bins) != 0 {
				t.Errorf("they wait behind %q: %v", other, d.bins)
			}
		}
		if d := after(4, whole+small+text(14, 0)+whole, ways); len(d.bins) != 4 || len(d.bins[box{0, 0, 4, 4}]) != 1 {
			t.Errorf("only the last one waits anew: %v", d.bins)
		}
	}
	if d := after(1, whole, 255-wayBins); len(d.bins) != 0 || d.colours.at(7, 7) != red {
		t.Errorf("none waits without bins: %v", d.bins)
	}
}

// TestEdgesLeaveOutTiles: an edge leaves a box out just if it has no pixel of it inside.
func TestEdgesLeaveOutTiles(t *testing.T) {
	d := dice(41)
	out, in := 0, 0
	for range 20000 {
		s := side{place{int64(d.placed()), int64(d.placed())}, place{int64(d.placed()), int64(d.placed())}}
		b := box{d.below(12), d.below(12), 1 + d.below(4), 1 + d.below(4)}
		want := true
		for y := b.y; y < b.y+b.rows; y++ {
			for x := b.x; x < b.x+b.columns; x++ {
				e := s.of(place{int64(16*x + 8), int64(16*y + 8)})
				if e > 0 || e == 0 && (s.to.y < s.from.y || s.to.y == s.from.y && s.to.x > s.from.x) {
					want = false
				}
			}
		}
		if got := s.leavesOut(b); got != want {
			t.Fatalf("the edge %v leaves out %v: %v, want %v", s, b, got, want)
		}
		if want {
			out++
		} else {
			in++
		}
	}
	if min(out, in) < 1000 {
		t.Errorf("only %d left out, %d not", out, in)
	}
}

// TestBounds: all pixels whose middles lie between the corners, across and down, and no others.
func TestBounds(t *testing.T) {
	for least := -70; least < 70; least++ {
		for most := least; most < 70; most++ {
			var want []int
			for x := -6; x < 6; x++ {
				if middle := 16*x + 8; middle >= least && middle <= most {
					want = append(want, x)
				}
			}
			first, count := middlesIn(span[int64]{int64(least), int64(most)})
			if count != len(want) || count > 0 && first != want[0] {
				t.Fatalf("from %d to %d there are %d middles from pixel %d on, want %v", least, most, count, first, want)
			}
		}
	}
	d := newDrawer("", wayBounds)
	b := readTriangle(flatOf(100, 30, 40, 80, 20, 9, 0, red)[1:])
	if got := d.lookedAt(&b); got != (box{1, 1, 5, 4}) {
		t.Errorf("looked at: %v", got)
	}
	b = readTriangle(flatOf(-32768, -32768, 32767, -32768, 32767, 32767, 0, red)[1:])
	if got := d.lookedAt(&b); got != (box{0, 0, 8, 8}) {
		t.Errorf("looked at: %v", got)
	}
}

// TestMeet: just the pixels that are in both.
func TestMeet(t *testing.T) {
	d := dice(42)
	for range 3000 {
		a := box{d.below(6), d.below(6), d.below(5), d.below(5)}
		b := box{d.below(9) - 3, d.below(9) - 3, d.below(5), d.below(5)}
		in := func(b box, x, y int) bool {
			return x >= b.x && x < b.x+b.columns && y >= b.y && y < b.y+b.rows
		}
		m := a.meet(b)
		pixels := 0
		for y := range 12 {
			for x := range 12 {
				if in(a, x, y) != in(m, x, y) && in(a, x, y) == in(b, x, y) || in(m, x, y) && !in(b, x, y) {
					t.Fatalf("%v meets %v in %v", a, b, m)
				}
				if in(a, x, y) && in(b, x, y) {
					pixels++
				}
			}
		}
		if m.isEmpty() != (pixels == 0) || m.columns < 0 || m.rows < 0 {
			t.Fatalf("%v meets %v in %v", a, b, m)
		}
	}
}

// TestMayPass: held against every number of both spans.
func TestMayPass(t *testing.T) {
	for test := range uint8(8) {
		for bits := range 256 {
			comes, there := span[int]{bits & 3, bits >> 2 & 3}, span[int]{bits >> 4 & 3, bits >> 6}
			if comes.least > comes.most || there.least > there.most {
				continue
			}
			want := false
			for c := comes.least; c <= comes.most; c++ {
				for x := there.least; x <= there.most; x++ {
					want = want || slowTest(int(test), c, x)
				}
			}
			if got := mayPass(test, comes, there); got != want {
				t.Errorf("test %d of %v against %v may pass: %v, want %v", test, comes, there, got, want)
			}
		}
	}
}

func TestSpans(t *testing.T) {
	s := newSurface(8, 8, 9)
	if got := spanIn(&s, box{4, 4, 4, 4}); got != (span[int]{9, 9}) {
		t.Errorf("a new tile has %v", got)
	}
	s.set(5, 6, 3)
	s.set(7, 7, 12)
	for b, want := range map[box]span[int]{
		{4, 4, 4, 4}: {3, 12}, {4, 4, 3, 4}: {3, 9}, {6, 6, 2, 2}: {9, 12}, {5, 6, 1, 1}: {3, 3}, {0, 4, 4, 4}: {9, 9}, {4, 6, 2, 1}: {3, 9}, {4, 4, 4, 2}: {9, 9},
	} {
		if got := spanIn(&s, b); got != want {
			t.Errorf("%v has %v, want %v", b, got, want)
		}
	}
}

// marks is which tiles of a stream's surfaces are marked at its end: colours, depths, stencils.
func marks(stream string, ways int) [3]string {
	d := newDrawer(stream, ways)
	d.work()
	return [3]string{marksOf(&d.colours), marksOf(&d.depths), marksOf(&d.stencils)}
}

func marksOf[T comparable](s *surface[T]) string {
	out := ""
	for tile := range s.eachTile {
		if tile.marked {
			out += "m"
		} else {
			out += "."
		}
	}
	return out
}

// TestClearsMarkTiles: by way 16 all, by way 32 those of depths.
func TestClearsMarkTiles(t *testing.T) {
	clear := text(2, 7, 1, 2, 3, 4, 5, 6)
	drawn := text(4, 7, 1, 255, 255, 0, 0, 2) + triangleOf(spot{-900, -900, 0, red}, spot{4000, -900, 9000, red}, spot{-900, 4000, 9, blue})
	for _, c := range []struct {
		stream string
		ways   int
		want   [3]string
	}{
		{"", 0, [3]string{"mmmm", "mmmm", "mmmm"}},
		{drawn, 0, [3]string{"....", "....", "...."}},
		{drawn, 48, [3]string{"....", "....", "...."}},
		{drawn + clear, 0, [3]string{"....", "....", "...."}},
		{drawn + clear, 255 - 48, [3]string{"....", "....", "...."}},
		{drawn + clear, 16, [3]string{"mmmm", "mmmm", "mmmm"}},
		{drawn + clear, 32, [3]string{"....", "mmmm", "...."}},
		{drawn + text(12, 16) + clear, 0, [3]string{"mmmm", "mmmm", "mmmm"}},
		{drawn + text(12, 32) + clear, 16, [3]string{"....", "mmmm", "...."}},
		{drawn + text(2, 4, 0, 0, 0, 0, 0, 0), 16, [3]string{"....", "....", "mmmm"}},
		// What brings nothing new to a tile lets its mark stay.
		{text(2, 7, 0, 0, 0, 255, 255, 0), 0, [3]string{"mmmm", "mmmm", "mmmm"}},
		{clear + wholeOf(4*256+5, colour{1, 2, 3}), 16, [3]string{"mmmm", "mmmm", "mmmm"}},
		{clear + wholeOf(9, colour{1, 2, 3}), 16, [3]string{"mmmm", "....", "mmmm"}},
	} {
		if got := marks(c.stream, c.ways); got != c.want {
			t.Errorf("ways %d, %q: marked %v, want %v", c.ways, c.stream, got, c.want)
		}
	}
}

// TestTilesOfOneDepth: they keep one number by way 32, whatever lies beyond the pane, till a pixel differs.
func TestTilesOfOneDepth(t *testing.T) {
	one := flatOf(40, 40, 41, 40, 40, 41, 7, blue) // pixel (2, 2)
	for _, c := range []struct {
		stream string
		want   string
	}{
		{wholeOf(5, red), "mmmm"},
		{wholeOf(5, red) + one, ".mmm"},
		{wholeOf(5, red) + one + wholeOf(5, red), "mmmm"},
		{wholeOf(5, red) + one + text(5, 2, 2, 1, 1) + wholeOf(5, red), "mmmm"},
		{wholeOf(5, red) + text(5, 0, 0, 5, 5) + wholeOf(6, red), "m..."},
		{text(1, 6, 7) + wholeOf(5, red), "mmmm"},
		{text(1, 6, 7) + text(5, 0, 0, 5, 7) + wholeOf(5, red), "m.m."},
		{text(1, 6, 7) + text(5, 0, 0, 6, 6) + wholeOf(5, red), "mm.."},
		{text(1, 6, 7) + wholeOf(5, red) + text(5, 5, 6, 1, 1) + wholeOf(6, red), "mmm."},
	} {
		for _, ways := range []int{32, 32 | 64, 32 | 128, 255} {
			if got := marks(c.stream, ways)[1]; got != c.want {
				t.Errorf("ways %d, %q: marked %v, want %v", ways, c.stream, got, c.want)
			}
		}
		for _, ways := range []int{0, 255 - 32} {
			if got := marks(wholeOf(5, red), ways)[1]; got != "...." {
				t.Errorf("ways %d: marked %v", ways, got)
			}
		}
	}
}
