package pane

import "testing"

// times draws triangles that each count one up in the stencil, and answers how often each pixel was covered.
func times(w, h int, triangles string) []int {
	stream := text(1, w, h) + text(4, 7, 0, 255, 255, 0, 0, 3) + triangles
	for y := range h {
		for x := range w {
			stream += text(13, 3, x, y)
		}
	}
	var out []int
	for _, r := range Draw(stream, 0) {
		out = append(out, r.A)
	}
	return out
}

func turn(a, b, c spot) int {
	return (b.x-a.x)*(c.y-a.y) - (b.y-a.y)*(c.x-a.x)
}

// TestSharedEdge: two triangles at one edge, on different sides of it, in all the orders of their corners.
func TestSharedEdge(t *testing.T) {
	d := dice(21)
	onTheEdge, pairs := 0, 0
	for pairs < 3000 {
		throw := func() spot { return spot{x: d.coordinate(), y: d.coordinate()} }
		a, b, c, e := throw(), throw(), throw(), throw()
		if one, two := turn(a, b, c), turn(a, b, e); one == 0 || two == 0 || (one < 0) == (two < 0) {
			continue
		}
		pairs++
		first := [][3]spot{{a, b, c}, {b, a, c}, {c, a, b}, {b, c, a}}[d.below(4)]
		second := [][3]spot{{a, b, e}, {b, a, e}, {e, a, b}, {b, e, a}}[d.below(4)]
		got := times(8, 8, triangleOf(first[0], first[1], first[2])+triangleOf(second[0], second[1], second[2]))
		for i, n := range got {
			p := spot{x: 16*(i%8) + 8, y: 16*(i/8) + 8}
			if n > 1 {
				t.Fatalf("P6: %v and %v cover %v together", first, second, p)
			}
			if turn(a, b, p) == 0 && n == 1 {
				onTheEdge++
			}
		}
	}
	if onTheEdge < 100 {
		t.Errorf("only %d pixels on the shared edge were covered", onTheEdge)
	}
}

// TestFans: triangles around a place inside the pane cover each pixel just once.
func TestFans(t *testing.T) {
	d := dice(22)
	around := []spot{{x: -100, y: -100}, {x: 64, y: -200}, {x: 228, y: -100}, {x: 300, y: 64}, {x: 228, y: 228}, {x: 64, y: 300}, {x: -100, y: 228}, {x: -200, y: 64}}
	for range 300 {
		middle := spot{x: 8 * d.below(17), y: 8 * d.below(17)}
		s := ""
		for i := range around {
			a, b := around[i], around[(i+1)%8]
			if d.below(2) == 0 {
				a, b = b, a
			}
			s += triangleOf(middle, a, b)
		}
		for i, n := range times(8, 8, s) {
			if n != 1 {
				t.Fatalf("P6: a fan around %v covers pixel %d %d times", middle, i, n)
			}
		}
	}
}

// TestGrids: two triangles a square, on a grid through pixels' middles, cover each pixel just once.
func TestGrids(t *testing.T) {
	for _, wide := range []int{8, 16, 24, 40} {
		for bits := range 4 {
			s := ""
			for y := 0; y < 128; y += wide {
				for x := 0; x < 128; x += wide {
					a, b, c, e := spot{x: x, y: y}, spot{x: x + wide, y: y}, spot{x: x + wide, y: y + wide}, spot{x: x, y: y + wide}
					if bits&1 != 0 {
						a, b, c, e = b, c, e, a
					}
					if bits&2 != 0 {
						s += triangleOf(a, b, c) + triangleOf(a, c, e)
					} else {
						s += triangleOf(c, b, a) + triangleOf(a, e, c)
					}
				}
			}
			for i, n := range times(8, 8, s) {
				if n != 1 {
					t.Fatalf("P6: a grid of %d, %d, covers pixel %d %d times", wide, bits, i, n)
				}
			}
		}
	}
}
