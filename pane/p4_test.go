package pane

import (
	"slices"
	"strings"
	"testing"
)

// fewMasks are no way, each alone, each with each other, all but one, and all of them.
var fewMasks = func() []int {
	masks := []int{0, 255}
	for i := range 8 {
		masks = append(masks, 1<<i, 255-1<<i)
		for j := range i {
			masks = append(masks, 1<<i|1<<j)
		}
	}
	return masks
}()

var everyMask = slices.Collect(everyByte)

// readInWays ends and reads all behind a stream, and holds it against the slow pane in those ways.
func readInWays(t *testing.T, stream string, masks []int) *slowPane {
	t.Helper()
	return asSlowly(t, readAll(stream), masks...)
}

// placed throws a coordinate at or just beside the borders of tiles and the middles of pixels, or far out.
func (d *dice) placed() int {
	if d.below(12) == 0 {
		return []int{-32768, -32767, -4000, 4000, 32766, 32767}[d.below(6)]
	}
	return []int{0, 8, 56, 64, 72, 120, 128, 136, 184, 192}[d.below(10)] + []int{0, 0, 0, -1, 1, -16}[d.below(6)]
}

// placedTriangle throws one that touches, leaves or covers tiles, flat or not, at the depths told.
func (d *dice) placedTriangle(depths ...int) string {
	var l [3]spot
	depth := depths[d.below(len(depths))]
	flat := d.below(3) > 0
	for i := range l {
		if !flat {
			depth = depths[d.below(len(depths))]
		}
		c := d.bytes(3)
		l[i] = spot{d.placed(), d.placed(), depth, colour{c[0], c[1], c[2]}}
	}
	if d.below(4) == 0 {
		l[0].x, l[0].y, l[1].x, l[1].y, l[2].x, l[2].y = -1000, -1000, 4000, -1000, -1000, 4000
	}
	return triangleOf(l[0], l[1], l[2])
}

// rule throws a command that lays something down for triangles; stencils often stay, so that tiles can be left out.
func (d *dice) rule() string {
	done := func() int { return d.below(2) * d.below(8) }
	switch d.below(9) {
	case 0, 1:
		return text(3, d.below(8), d.below(2))
	case 2, 3:
		return text(4, d.below(8), d.below(3), []int{255, 1, 0}[d.below(3)], []int{255, 255, 3, 0}[d.below(4)], done(), done(), done())
	case 4:
		return text(5, d.below(4), d.below(4), d.below(4), d.below(4))
	case 5:
		return text(6, d.below(3))
	case 6:
		return text(7, d.below(2)*d.below(8))
	case 7:
		return text(2, d.below(8), d.below(256), 1, 2, 100*d.below(2), d.below(2), d.below(3))
	}
	return d.someShader()
}

// someShader throws one that changes the depth, one that gives up at some pixels, one that does both, or one that does neither.
func (d *dice) someShader() string {
	kind := d.below(4)
	steps := [][4]int{number(6, d.below(9)), {d.below(6), d.below(3), d.below(8), d.below(8)}}
	if kind&1 != 0 {
		steps = append(steps, [4]int{7, 0, 3 + d.below(2), 6})
	}
	if kind&2 != 0 {
		steps = append(steps, [4]int{8, 0, []int{3, 4, 5, 6}[d.below(4)], 0})
	}
	return shaderOf(append(steps, number(7, 1))[:d.below(len(steps)+2)]...)
}

// scene throws commands in which the ways have much to leave out, and switches them in between.
func (d *dice) scene() []string {
	out := []string{text(1, 1+d.below(11), 1+d.below(11)), d.someShader()}
	depths := [][]int{{0, 65535}, {100, 100, 100, 101, 99}, {0, 1, 25600, 25601, 65534, 65535}}[d.below(3)]
	for range 2 + d.below(12) {
		switch d.below(8) {
		case 0:
			out = append(out, text(12, d.below(256)))
		case 1:
			out = append(out, text(10+d.below(2), d.below(2)))
		case 2:
			out = append(out, text(13, 1+d.below(3), d.below(9), d.below(9)), text(14, d.below(2)))
		case 3, 4, 5:
			out = append(out, d.rule())
		}
		for range d.below(4) {
			out = append(out, d.placedTriangle(depths...))
		}
	}
	return out
}

// TestScenesInWays: each way alone, each with each other, all of them, and all 256 at times.
func TestScenesInWays(t *testing.T) {
	d := dice(31)
	fewer := 0
	for i := range 250 {
		stream := readAll(strings.Join(d.scene(), ""))
		masks := fewMasks
		if i%10 == 0 {
			masks = everyMask
		}
		if p := asSlowly(t, stream, masks...); Steps(stream, 255) < p.steps {
			fewer++
		}
	}
	for range 6000 {
		readInWays(t, strings.Join(d.scene(), ""), []int{255, d.below(256), 1 << d.below(8)})
	}
	if fewer < 50 {
		t.Errorf("in only %d scenes of 250 something was left out", fewer)
	}
}

// TestWaysSwitchedInBetween: whatever stands behind the commands 12, and whatever the ways are, the answer is one.
func TestWaysSwitchedInBetween(t *testing.T) {
	d := dice(32)
	for range 400 {
		scene := d.scene()
		switched := func(mask func() int) string {
			s := ""
			for _, c := range scene {
				if c[0] == 12 {
					c = ""
				}
				s += text(12, mask()) + c
			}
			return s
		}
		none := readAll(switched(func() int { return 0 }))
		want := Draw(none, 0)
		steps := Steps(none, 0)
		behind := none[len(switched(func() int { return 0 })):]
		for _, mask := range []func() int{
			func() int { return 255 }, func() int { return d.below(256) }, func() int { return d.below(256) },
			func() int { return 255 * d.below(2) }, func() int { return 1 << d.below(8) }, func() int { return 64 | 1<<d.below(8) },
		} {
			stream := switched(mask) + behind
			ways := d.below(256)
			if got := Draw(stream, ways); !slices.Equal(got, want) {
				t.Fatalf("P4: Draw(%q, %d) = %v, and without ways %v", stream, ways, got, want)
			}
			if got := Steps(stream, ways); got > steps {
				t.Fatalf("P5: Steps(%q, %d) = %d, and without ways %d", stream, ways, got, steps)
			}
		}
	}
}

// TestTrianglesAndTiles: corners at, beside and far from the borders of tiles, and windows that cut tiles.
func TestTrianglesAndTiles(t *testing.T) {
	d := dice(33)
	for range 1500 {
		w, h := 1+d.below(12), 1+d.below(12)
		x, y := d.below(w+1), d.below(h+1)
		stream := text(1, w, h) + text(4, 7, 0, 255, 255, 0, 0, 6)
		if d.below(2) == 0 {
			stream += text(5, x, y, d.below(w-x+1), d.below(h-y+1))
		}
		for range 1 + d.below(3) {
			stream += d.placedTriangle(7, 70)
		}
		readInWays(t, stream, []int{1, 2, 64, 128, 130, 66, 194, 255, d.below(256)})
	}
}

// TestCornersOfAllBitsInWays: no edge and no bound is reckoned wrong at the ends of 16 bits.
func TestCornersOfAllBitsInWays(t *testing.T) {
	ends := []int{-32768, -32767, -1, 0, 8, 63, 64, 129, 32766, 32767}
	d := dice(34)
	for range 2000 {
		throw := func() spot { return spot{ends[d.below(10)], ends[d.below(10)], d.depth(), red} }
		stream := text(1, 9, 6) + text(5, 1, 1, 7, 4) + triangleOf(throw(), throw(), throw())
		readInWays(t, stream, []int{1, 2, 128, 131, 255})
	}
}

// TestDepthsInWays: each depth test, at the ends of the range, against tiles of one depth and of two, written and not.
func TestDepthsInWays(t *testing.T) {
	depths := []int{0, 1, 32768, 65534, 65535}
	half := func(depth int) string { return flatOf(-900, -900, 90, 40, -900, 900, depth, blue) }
	slanted := func(a, b int) string {
		return triangleOf(spot{-1000, -1000, a, red}, spot{4000, -1000, b, red}, spot{-1000, 4000, a, red})
	}
	for test := range 8 {
		for written := range 2 {
			for _, one := range depths {
				for _, two := range depths {
					for _, comes := range depths {
						stream := text(1, 6, 5) + wholeOf(one, blue) + half(two) + text(3, test, written) + text(10, 0) + shaderOf(number(1, 9))
						readInWays(t, stream+wholeOf(comes, red)+half(comes), []int{4, 12, 36, 68, 255})
						readInWays(t, stream+slanted(one, comes)+slanted(comes, two), []int{4, 12, 36, 68, 255})
					}
				}
			}
		}
	}
}

// TestStencilsInWays: each stencil test and all that is done with a stencil, where a pixel fails and where it passes.
func TestStencilsInWays(t *testing.T) {
	behind := flatOf(-900, -900, 90, 40, -900, 900, 90, blue)
	for test := range 8 {
		for done := range 8 {
			for event := range 3 {
				for _, writes := range []int{255, 5, 0} {
					acts := [3]int{}
					acts[event] = done
					for depthTest := range 8 {
						stream := text(1, 5, 6) + text(2, 4, 0, 0, 0, 0, 0, 2) + text(4, 7, 1, 255, 255, 0, 0, 2) + behind +
							text(4, test, 1, 3, writes, acts[0], acts[1], acts[2]) + text(3, depthTest, 0) + text(7, 0) + text(8, 1, 6, 0, 0, 0)
						readInWays(t, stream+wholeOf(90, red)+wholeOf(40, red), []int{1, 4, 8, 12, 13, 255})
					}
				}
			}
		}
	}
}

// TestShadersInWays: those that give up, those that change the depth, those that do both and those that do neither, with each test.
func TestShadersInWays(t *testing.T) {
	up, deep, plain := [4]int{7, 0, 3, 4}, [4]int{8, 0, 4, 0}, [4]int{0, 0, 0, 3}
	for _, steps := range [][][4]int{nil, {plain}, {up}, {deep}, {up, deep}, {deep, up}, {plain, up}, {plain, deep}, {up, plain}, {deep, plain}, {number(5, 0), plain}, {number(6, -1), {8, 0, 6, 0}}} {
		for test := range 8 {
			for written := range 2 {
				for _, stencil := range []string{"", text(4, 7, 9, 255, 255, 0, 2, 0), text(4, 5, 0, 255, 255, 3, 0, 0), text(4, 6, 1, 255, 255, 3, 4, 6)} {
					stream := text(2, 2, 0, 0, 0, 0, 3, 0) + text(3, test, written) + stencil + shaderOf(steps...) + text(10, 0)
					readInWays(t, stream+wholeOf(2, red)+wholeOf(3, red)+flatOf(0, 0, 128, 0, 0, 128, 5, blue), []int{1, 4, 8, 12, 32, 255})
				}
			}
		}
	}
}

// TestClearsInWays: ahead of, between and behind triangles, of each of colour, depth and stencil.
func TestClearsInWays(t *testing.T) {
	for ahead := range 8 {
		for between := range 8 {
			for behind := range 8 {
				s := text(1, 7, 9) + text(4, 7, 0, 255, 255, 0, 0, 3)
				s += text(2, ahead, 1, 2, 3, 0, 50, 7) + wholeOf(50, red) + flatOf(8, 8, 80, 8, 8, 80, 40, blue)
				s += text(2, between, 4, 5, 6, 0, 40, 8) + text(3, 1, 1) + flatOf(40, 8, 120, 8, 40, 120, 30, blue)
				s += text(2, behind, 7, 8, 9, 0, 30, 9)
				readInWays(t, s, []int{0, 4, 16, 32, 48, 52, 64, 112, 255})
				readInWays(t, s+wholeOf(30, blue), []int{0, 4, 16, 32, 48, 52, 64, 112, 255})
			}
		}
	}
}

// TestTrianglesThatWait: whatever comes behind them, good or wrong, they are drawn by what held when they came.
func TestTrianglesThatWait(t *testing.T) {
	waiting := text(12, 64) + wholeOf(50, red) + flatOf(8, 8, 120, 8, 8, 120, 40, blue) + flatOf(56, 8, 72, 40, 24, 40, 60, red)
	later := flatOf(40, 8, 128, 8, 40, 128, 45, colour{1, 2, 3})
	others := append(slices.Clone(oneOfEach), text(12, 0), text(12, 255), text(12, 1), text(10, 0), text(11, 0), text(14, 0),
		text(2, 1, 9, 9, 9, 9, 9, 9), text(2, 2, 9, 9, 9, 0, 45, 9), text(2, 4, 9, 9, 9, 9, 9, 9), text(2, 8, 9, 9, 9, 9, 9, 9),
		text(1, 0, 0), text(1, 8, 8), text(3, 8, 0), text(3, 4, 1), text(3, 0, 1), text(4, 9, 0, 0, 0, 0, 0, 0), text(4, 0, 1, 255, 255, 2, 0, 0),
		text(5, 2, 3, 4, 3), text(5, 0, 0, 0, 0), text(5, 9, 9, 9, 9), text(6, 2), text(7, 2), text(7, 9), text(8, 0), text(8, 1, 7, 0, 3, 4),
		text(8, 1, 8, 0, 3, 4), text(13, 1, 1, 1), text(13, 2, 1, 1), text(13, 3, 1, 1), text(13, 0, 0, 0), text(14, 3))
	for _, first := range []string{"", text(10, 0), text(3, 1, 1), text(4, 7, 3, 255, 255, 0, 0, 2), text(8, 1, 0, 0, 3, 4), text(5, 1, 1, 6, 5), text(6, 1)} {
		for _, c := range others {
			readInWays(t, first+waiting+c+later, fewMasks)
			readInWays(t, first+waiting+c+c+later+text(12, 64)+later+c, []int{0, 64, 255})
		}
	}
	// What ends the stream lets them wait no longer, either: their steps are made.
	steps := shaderOf(number(0, 1)) + waiting
	for _, end := range []string{"", text(0), text(15), text(9), later[:27], text(8, 255)} {
		for _, ways := range []int{0, 64, 192} {
			stream := steps + end
			if got, want := Steps(stream, ways), slowly(stream).steps; got != want || got < 64 {
				t.Errorf("P5: Steps(%q, %d) = %d, want %d", stream, ways, got, want)
			}
		}
	}
}

// TestCountsWithEveryMask: a query's count, with tests and shaders that hold some pixels back.
func TestCountsWithEveryMask(t *testing.T) {
	d := dice(35)
	for range 12 {
		stream := text(10, 0) + wholeOf(50, red)
		for range 6 {
			stream += d.rule() + d.placedTriangle(49, 50, 51) + text(10, 1) + d.placedTriangle(49, 50, 51) + text(11, 1, 14, 1)
		}
		asSlowly(t, stream+text(11, 0, 14, 0), everyMask...)
	}
	// Nothing is written at all, and yet it is counted.
	nothing := text(3, 7, 0) + text(7, 0) + text(10, 2) + wholeOf(1, red) + wholeOf(2, red) + text(11, 2, 14, 2)
	for ways := range 256 {
		if got := Draw(nothing, ways); !slices.Equal(got, []Reply{{Count, 2, 128, 0}}) {
			t.Errorf("P4: in ways %d a query counts %v", ways, got)
		}
	}
}
