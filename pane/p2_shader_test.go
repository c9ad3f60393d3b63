package pane

import (
	"math"
	"math/big"
	"slices"
	"strings"
	"testing"
)

// shaderOf is the command of a shader of these steps.
func shaderOf(steps ...[4]int) string {
	s := text(8, len(steps))
	for _, p := range steps {
		s += text(p[0], p[1], p[2], p[3])
	}
	return s
}

// number is the step that brings a number of two bytes to a register.
func number(to, n int) [4]int { return [4]int{6, to, n >> 8 & 255, n & 255} }

// bigStep reckons a step with numbers of any size.
func bigStep(what int, one, two int64) int64 {
	a, b, out := big.NewInt(one), big.NewInt(two), new(big.Int)
	switch what {
	case 0:
		out.Add(a, b)
	case 1:
		out.Sub(a, b)
	case 2:
		out.Div(out.Mul(a, b), big.NewInt(256)) // Euclid's: rounds down, as 256 is above 0
	case 3:
		out.Set(a)
		if b.Cmp(a) < 0 {
			out.Set(b)
		}
	case 4:
		out.Set(a)
		if b.Cmp(a) > 0 {
			out.Set(b)
		}
	case 5:
		if a.Cmp(b) < 0 {
			out.SetInt64(1)
		}
	}
	least, most := big.NewInt(-1<<31), big.NewInt(1<<31-1)
	if out.Cmp(least) < 0 {
		return -1 << 31
	}
	if out.Cmp(most) > 0 {
		return 1<<31 - 1
	}
	return out.Int64()
}

// TestStepsAtTheEnds: each step that reckons, with numbers at the ends of its range.
func TestStepsAtTheEnds(t *testing.T) {
	ends := []int64{
		math.MinInt32, math.MinInt32 + 1, -1 << 30, -65537, -65536, -32769, -32768, -257, -256, -255, -2, -1,
		0, 1, 2, 255, 256, 257, 32767, 32768, 65535, 65536, 1 << 30, math.MaxInt32 - 1, math.MaxInt32,
	}
	for what := range 6 {
		for _, one := range ends {
			for _, two := range ends {
				r := registers{6: one, 7: two}
				if got, want := (step{uint8(what), 0, 6, 7}).reckon(&r), bigStep(what, one, two); got != want {
					t.Errorf("P2: step %d of %d and %d = %d, want %d", what, one, two, got, want)
				}
				r = registers{3: one}
				if got, want := (step{uint8(what), 0, 3, 3}).reckon(&r), bigStep(what, one, one); got != want {
					t.Errorf("P2: step %d of %d and itself = %d, want %d", what, one, got, want)
				}
			}
		}
	}
	for n := math.MinInt16; n <= math.MaxInt16; n++ {
		s := step{6, 0, uint8(n >> 8), uint8(n)}
		if got := s.reckon(&registers{}); got != int64(n) {
			t.Errorf("P2: the number %d is %d", n, got)
		}
	}
}

// shown is red, green and blue at (5, 2) and the depth, behind a shader and a triangle over all.
func shown(t *testing.T, want [4]int, steps ...[4]int) {
	t.Helper()
	wants(t, shaderOf(steps...)+wholeOf(1000, colour{30, 60, 90})+text(13, 1, 5, 2, 13, 2, 5, 2),
		Reply{Pixel, want[0], want[1], want[2]}, Reply{Kind: Depth, A: want[3]})
}

func TestRegistersAtFirst(t *testing.T) {
	shown(t, [4]int{30, 60, 90, 1000})
	shown(t, [4]int{5, 2, 0, 1000}, [4]int{0, 0, 3, 6}, [4]int{0, 1, 4, 7}, [4]int{0, 2, 6, 7})
	// The depth is beyond what a colour can be: 1000 * 16 / 256 is 62.
	shown(t, [4]int{62, 60, 90, 1000}, number(6, 16), [4]int{2, 0, 5, 6})
	// Registers begin anew at each pixel.
	wants(t, shaderOf([4]int{0, 0, 6, 3}, number(6, 100), number(7, 100), number(3, 100))+wholeOf(1, red)+text(13, 1, 7, 7), Reply{Pixel, 7, 0, 0})
}

func TestEachStep(t *testing.T) {
	for _, c := range []struct {
		what, one, two, want int
	}{
		{0, 100, 100, 200}, {0, 100, -30, 70}, {0, 200, 100, 255}, {0, -5, 3, 0},
		{1, 100, 30, 70}, {1, 30, 100, 0}, {1, 30, -100, 130},
		{2, 256, 77, 77}, {2, 255, 77, 76}, {2, 128, 3, 1}, {2, -256, -9, 9}, {2, 32767, 32767, 255}, {2, 16, 15, 0},
		{3, 3, 4, 3}, {3, 4, 3, 3}, {3, -1, 9, 0}, {4, 3, 4, 4}, {4, 4, 3, 4}, {4, -1, -2, 0},
		{5, 3, 4, 1}, {5, 4, 4, 0}, {5, 4, 3, 0}, {5, -32768, 32767, 1},
	} {
		shown(t, [4]int{c.want, 60, 90, 1000}, number(6, c.one), number(7, c.two), [4]int{c.what, 0, 6, 7})
		shown(t, [4]int{c.want, 60, 90, 1000}, number(0, c.one), number(1, c.two), [4]int{c.what, 0, 0, 1}, number(1, 60))
		shown(t, [4]int{30, 60, c.want, 1000}, number(6, c.one), number(7, c.two), [4]int{c.what, 7, 6, 7}, [4]int{3, 2, 7, 7})
	}
	// Rounded down below 0 as well: -1 / 256 is -1, so that 200 more is 199.
	for one, want := range map[int]int{-1: 199, -255: 199, -256: 199, -257: 198, 0: 200, 255: 200, 256: 201} {
		shown(t, [4]int{want, 60, 90, 1000}, number(6, one), number(7, 1), [4]int{2, 6, 6, 7}, number(7, 200), [4]int{0, 0, 6, 7})
	}
}

// TestNumbersWithRegistersAbove7: the bytes of a number are no registers.
func TestNumbersWithRegistersAbove7(t *testing.T) {
	shown(t, [4]int{255, 60, 90, 1000}, [4]int{6, 0, 127, 255})
	shown(t, [4]int{0, 60, 90, 1000}, [4]int{6, 0, 255, 255})
	shown(t, [4]int{0, 60, 90, 1000}, [4]int{6, 0, 128, 0})
	shown(t, [4]int{200, 60, 90, 1000}, [4]int{6, 0, 0, 200})
}

// TestWhatComesOutIsBounded: sums and products beyond 32 bits stay at the ends.
func TestWhatComesOutIsBounded(t *testing.T) {
	most := [][4]int{number(6, 32767), {2, 6, 6, 6}, {2, 6, 6, 6}}
	least := append(slices.Clone(most), number(7, -32768), [4]int{2, 7, 6, 7})
	// same tells by 0, 0 in red and green that registers one and two are the same.
	same := func(one, two int) [][4]int { return [][4]int{{5, 0, one, two}, {5, 1, two, one}} }
	for _, s := range [][4]int{{0, 5, 6, 6}, {1, 5, 6, 7}, {2, 5, 6, 6}, {2, 5, 7, 7}, {4, 5, 6, 7}} {
		shown(t, [4]int{0, 0, 90, 1000}, append(append(slices.Clone(least), s), same(5, 6)...)...)
	}
	for _, s := range [][4]int{{0, 5, 7, 7}, {1, 5, 7, 6}, {2, 5, 6, 7}, {3, 5, 6, 7}} {
		shown(t, [4]int{0, 0, 90, 1000}, append(append(slices.Clone(least), s), same(5, 7)...)...)
	}
	// The one is not just the other turned: their sum is -1.
	shown(t, [4]int{0, 0, 90, 1000}, append(append(slices.Clone(least), [4]int{0, 5, 6, 7}, number(6, -1)), same(5, 6)...)...)
}

func TestColoursAreBrought(t *testing.T) {
	for n, want := range map[int]int{-32768: 0, -1: 0, 0: 0, 1: 1, 254: 254, 255: 255, 256: 255, 257: 255, 511: 255, 32767: 255} {
		shown(t, [4]int{want, 60, 90, 1000}, number(0, n))
		shown(t, [4]int{30, want, 90, 1000}, number(1, n))
		shown(t, [4]int{30, 60, want, 1000}, number(2, n))
	}
	// Only behind the last step: on the way they are as they come.
	shown(t, [4]int{44, 60, 90, 1000}, number(0, 300), number(6, -256), [4]int{0, 0, 0, 6})
}

func TestDepthOfAShader(t *testing.T) {
	for n, want := range map[int]int{-32768: 0, -1: 0, 0: 0, 1: 1, 32767: 32767} {
		shown(t, [4]int{30, 60, 90, want}, number(6, n), [4]int{8, 255, 6, 255})
	}
	for n, want := range map[int]int{0: 65534, 1: 65535, 2: 65535, 3: 65535, 32767: 65535, -1: 65533} {
		shown(t, [4]int{30, 60, 90, want}, number(6, 32767), [4]int{0, 6, 6, 6}, number(7, n), [4]int{0, 6, 6, 7}, [4]int{8, 0, 6, 0})
	}
	// The registers stay: register 5 is the triangle's depth, and to write there changes none.
	shown(t, [4]int{62, 60, 90, 7}, number(6, 7), [4]int{8, 5, 6, 5}, number(6, 16), [4]int{2, 0, 5, 6})
	shown(t, [4]int{30, 60, 90, 1000}, number(5, 7))
	// The last one holds.
	shown(t, [4]int{30, 60, 90, 60}, [4]int{8, 0, 0, 0}, [4]int{8, 0, 1, 0})
	// It is what is tested.
	wants(t, wholeOf(500, red)+text(3, 1, 1)+shaderOf(number(6, 499), [4]int{8, 0, 6, 0})+wholeOf(900, blue)+read(0, 0), pixel(blue, 499, 0)...)
	wants(t, wholeOf(500, red)+text(3, 1, 1)+shaderOf(number(6, 500), [4]int{8, 0, 6, 0})+wholeOf(1, blue)+read(0, 0), pixel(red, 500, 0)...)
}

// TestGivesUp: nothing more happens at such a pixel: no test, no stencil, no count.
func TestGivesUp(t *testing.T) {
	for _, c := range []struct {
		one, two int
		up       bool
	}{{3, 4, true}, {4, 4, false}, {4, 3, false}, {-1, 0, true}, {0, -1, false}, {-32768, 32767, true}} {
		up := shaderOf(number(6, c.one), number(7, c.two), [4]int{7, 255, 6, 7})
		for _, tests := range []string{"", text(3, 0, 1), text(4, 0, 9, 255, 255, 2, 2, 2), text(4, 7, 9, 255, 255, 2, 2, 2)} {
			stream := text(10, 0) + tests + up + wholeOf(1, red) + text(11, 0, 14, 0) + read(4, 4)
			if c.up {
				wants(t, stream, append([]Reply{{Count, 0, 0, 0}}, atFirst...)...)
			} else if tests == "" {
				wants(t, stream, append([]Reply{{Count, 0, 64, 0}}, pixel(red, 1, 0)...)...)
			} else if got := Draw(stream, 0); slices.Equal(got[1:], atFirst) && tests != text(3, 0, 1) {
				t.Errorf("P2: %v: nothing is done", c)
			}
		}
	}
	// At some pixels only: x below y.
	stream := shaderOf([4]int{7, 0, 3, 4}) + wholeOf(1, red)
	for y := range 8 {
		for x := range 8 {
			if x < y {
				wants(t, stream+read(x, y), atFirst...)
			} else {
				wants(t, stream+read(x, y), pixel(red, 1, 0)...)
			}
		}
	}
}

// TestShaderStays: till the next good one, and a size does not change it.
func TestShaderStays(t *testing.T) {
	five := shaderOf(number(0, 5))
	wrong := text(8, 1, 9, 0, 0, 0)
	wants(t, five+text(1, 8, 8)+wholeOf(1, red)+wholeOf(1, blue)+text(13, 1, 0, 0), Reply{Pixel, 5, 0, 100})
	wants(t, five+wrong+wholeOf(1, red)+text(13, 1, 0, 0), fault(ErrArg, 6), Reply{Pixel, 5, 0, 0})
	wants(t, five+text(8, 0)+wholeOf(1, red)+text(13, 1, 0, 0), Reply{Pixel, 200, 0, 0})
	many := text(8, 17) + strings.Repeat(text(6, 0, 0, 9), 17)
	wants(t, five+many+wholeOf(1, red)+text(13, 1, 0, 0), fault(ErrArg, 6), Reply{Pixel, 5, 0, 0})
	most := text(8, 16) + strings.Repeat(text(6, 7, 0, 1)+text(0, 6, 6, 7), 7) + text(0, 0, 6, 7) + text(0, 0, 0, 0)
	wants(t, most+wholeOf(1, red)+text(13, 1, 0, 0), Reply{Pixel, 16, 0, 0})
}
