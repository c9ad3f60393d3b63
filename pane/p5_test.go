package pane

import (
	"slices"
	"strings"
	"testing"
)

// stepsAre holds Steps without ways against what is wanted; in other ways they are at most that many.
func stepsAre(t *testing.T, stream string, want int) {
	t.Helper()
	for _, ways := range []int{0, 256, -256, 1 << 40} {
		for _, s := range []string{stream, text(12, 0) + stream} {
			if got := Steps(s, ways); got != want {
				t.Errorf("P5: Steps(%q, %d) = %d, want %d", s, ways, got, want)
			}
		}
	}
	for _, ways := range someWays {
		if got := Steps(stream, ways); got < 0 || got > want {
			t.Errorf("P5: Steps(%q, %d) = %d, at most %d", stream, ways, got, want)
		}
		if got := Steps(text(12, ways)+stream, 0); got < 0 || got > want {
			t.Errorf("P5: Steps with command 12 and %d = %d, at most %d", ways, got, want)
		}
	}
}

func TestStepsOfNothing(t *testing.T) {
	two := shaderOf(number(6, 1), number(7, 1))
	for _, stream := range []string{
		"", wholeOf(1, red), two, two + text(8, 0) + wholeOf(1, red), text(15) + two + wholeOf(1, red),
		two + wholeOf(1, red)[:27], two + text(5, 3, 3, 0, 5) + wholeOf(1, red), two + text(5, 3, 3, 5, 0) + wholeOf(1, red),
		two + flatOf(8, 8, 40, 40, 72, 72, 0, red), two + flatOf(-900, 0, -800, 0, -900, 90, 0, red),
		two + text(6, 2) + wholeOf(1, red), text(8, 17) + strings.Repeat(text(0, 0, 0, 0), 17) + wholeOf(1, red),
	} {
		stepsAre(t, stream, 0)
	}
}

// TestStepsAtEveryCoveredPixel: of the window and of faces that are drawn, whatever the tests say.
func TestStepsAtEveryCoveredPixel(t *testing.T) {
	two := shaderOf(number(6, 1), number(7, 1))
	back := flatOf(-1000, -1000, -1000, 4000, 4000, -1000, 1, red)
	stepsAre(t, two+wholeOf(1, red), 128)
	stepsAre(t, two+wholeOf(1, red)+back, 256)
	stepsAre(t, two+text(6, 1)+wholeOf(1, red)+back, 128)
	stepsAre(t, two+text(6, 2)+wholeOf(1, red)+back+back, 256)
	stepsAre(t, two+text(3, 0, 0)+wholeOf(1, red), 128)
	stepsAre(t, two+text(4, 0, 0, 255, 255, 0, 0, 0)+wholeOf(1, red), 128)
	stepsAre(t, two+text(7, 0)+text(3, 7, 0)+wholeOf(1, red), 128)
	stepsAre(t, two+text(3, 1, 1)+wholeOf(1, red)+wholeOf(1, red)+wholeOf(2, red), 384)
	stepsAre(t, two+text(5, 3, 2, 3, 5)+wholeOf(1, red), 30)
	stepsAre(t, two+text(1, 24, 24)+wholeOf(1, red), 2*24*24)
	stepsAre(t, two+flatOf(8, 8, 56, 8, 8, 56, 0, red), 12)
	stepsAre(t, text(8, 16)+strings.Repeat(text(0, 6, 6, 7), 16)+wholeOf(1, red), 16*64)
	stepsAre(t, two+wholeOf(1, red)+shaderOf(number(0, 1))+wholeOf(1, red)+text(8, 0)+wholeOf(1, red), 192)
	stepsAre(t, two+wholeOf(1, red)+text(15)+wholeOf(1, red), 128)
	stepsAre(t, two+text(8, 1, 9, 0, 0, 0)+wholeOf(1, red), 128)
}

// TestStepsOfOneThatGivesUp: the step that gives up is one, and those behind it are none.
func TestStepsOfOneThatGivesUp(t *testing.T) {
	up := [4]int{7, 0, 3, 4}
	for behind := range 4 {
		steps := append([][4]int{number(6, 1), up}, slices.Repeat([][4]int{number(7, 1)}, behind)...)
		stepsAre(t, shaderOf(steps...)+wholeOf(1, red), 28*2+36*(2+behind))
	}
	stepsAre(t, shaderOf(number(6, 1), [4]int{7, 0, 7, 6}, number(6, 1))+wholeOf(1, red), 64*2)
	stepsAre(t, shaderOf([4]int{8, 0, 6, 0}, [4]int{7, 0, 6, 7})+wholeOf(1, red), 64*2)
}

// savedIn holds Steps in ways against what is wanted there, waiting or not.
func savedIn(t *testing.T, ways int, stream string, want int) {
	t.Helper()
	for _, w := range []int{ways, ways | 64, ways | 64 | 128 | 2 | 16 | 32, ways | 256} {
		if got := Steps(stream, w); got != want {
			t.Errorf("P5: Steps(%q, %d) = %d, want %d", stream, w, got, want)
		}
	}
	if got := Steps(text(12, ways)+stream, 0); got != want {
		t.Errorf("P5: Steps(%q, 0) with a command 12 of %d = %d, want %d", stream, ways, got, want)
	}
	if got := Steps(text(12, 0)+stream, ways); got != slowly(stream).steps {
		t.Errorf("P5: Steps(%q, %d) with a command 12 of 0 = %d", stream, ways, got)
	}
}

// TestStepsOfTrianglesThatCannotBeSeen: where no outcome that may be leaves anything behind, none is made.
func TestStepsOfTrianglesThatCannotBeSeen(t *testing.T) {
	two := shaderOf(number(6, 1), number(7, 1))
	nothing := text(3, 7, 0) + text(7, 0)
	for _, c := range []struct {
		rules string
		want  int
	}{
		{"", 128}, {text(3, 7, 0), 128}, {text(7, 0), 128}, {nothing, 0}, {nothing + text(10, 3), 128}, {nothing + text(10, 3, 11, 3), 0},
		{nothing + text(10, 0), 128}, {text(3, 0, 1), 0}, {text(3, 0, 1) + text(10, 0), 0}, {text(3, 1, 0) + text(7, 4), 128},
		{text(4, 0, 0, 255, 255, 0, 1, 1), 0}, {text(4, 0, 0, 255, 255, 1, 0, 0), 128}, {text(4, 0, 0, 255, 0, 1, 1, 1), 0},
		{nothing + text(4, 7, 0, 255, 255, 1, 1, 0), 0}, {nothing + text(4, 7, 0, 255, 255, 0, 0, 5), 128}, {nothing + text(4, 7, 0, 255, 0, 0, 0, 5), 0},
		{text(3, 0, 1) + text(4, 7, 0, 255, 255, 1, 1, 1), 128}, {text(3, 0, 1) + text(4, 7, 0, 255, 255, 1, 0, 1), 0},
		{text(3, 0, 1) + text(4, 6, 0, 255, 255, 1, 0, 1), 128}, {text(3, 1, 0) + text(7, 0) + text(4, 7, 0, 255, 255, 0, 1, 0), 128},
		{nothing + text(4, 1, 0, 255, 255, 0, 1, 0), 0},
	} {
		savedIn(t, 1, c.rules+two+wholeOf(1, red), c.want)
	}
}

// TestStepsWhereDepthsDecide: tiles in which the depth test fails by the ends of the depths are left out, if nothing is done there.
func TestStepsWhereDepthsDecide(t *testing.T) {
	two := shaderOf(number(6, 1), number(7, 1))
	for _, c := range []struct {
		test, comes int
		decides     bool
	}{
		{0, 100, true}, {1, 99, false}, {1, 100, true}, {2, 99, true}, {2, 100, false}, {2, 101, true}, {3, 100, false}, {3, 101, true},
		{4, 101, false}, {4, 100, true}, {5, 100, true}, {5, 101, false}, {6, 100, false}, {6, 99, true}, {7, 100, false},
	} {
		want := 128
		if c.decides {
			want = 0
		}
		stream := text(2, 2, 0, 0, 0, 0, 100, 0) + text(3, c.test, 1)
		savedIn(t, 4, stream+two+wholeOf(c.comes, red), want)
		savedIn(t, 4, stream+text(4, 5, 1, 255, 255, 0, 0, 5)+two+wholeOf(c.comes, red), want)
		// Where something is done if a test fails, nothing is left out.
		savedIn(t, 4, stream+text(4, 7, 1, 255, 255, 0, 5, 0)+two+wholeOf(c.comes, red), 128)
		savedIn(t, 4, stream+text(4, 5, 1, 255, 255, 5, 0, 0)+two+wholeOf(c.comes, red), 128)
		// A shader that gives up may be left out just as well; one that changes the depth may pass.
		savedIn(t, 4, stream+shaderOf(number(6, 1), [4]int{7, 0, 7, 6})+wholeOf(c.comes, red), want)
		anyway := 128
		if c.test == 0 {
			anyway = 0
		}
		savedIn(t, 4, stream+shaderOf(number(6, 100), [4]int{8, 0, 6, 0})+wholeOf(c.comes, red), anyway)
	}
	// Only the tiles that decide, and only by what the window has of them.
	one := flatOf(40, 40, 41, 40, 40, 41, 200, blue) // pixel (2, 2)
	near := wholeOf(100, red) + text(3, 7, 1) + one + text(3, 1, 1) + two
	savedIn(t, 4, near+wholeOf(150, red), 32)
	savedIn(t, 4, near+text(5, 0, 0, 8, 2)+wholeOf(150, red), 0)
	savedIn(t, 4, text(1, 6, 6)+near+wholeOf(200, red), 0)
	// What a shader brings lies between 0 and 65535 whatever it reckons.
	deep := shaderOf(number(6, -1), [4]int{8, 0, 6, 0})
	savedIn(t, 4, wholeOf(0, red)+text(3, 1, 1)+deep+wholeOf(9, red), 0)
	savedIn(t, 4, wholeOf(1, red)+text(3, 1, 1)+deep+wholeOf(9, red), 128)
	savedIn(t, 4, wholeOf(65535, red)+text(3, 4, 1)+deep+wholeOf(9, red), 0)
	savedIn(t, 4, wholeOf(65534, red)+text(3, 4, 1)+deep+wholeOf(9, red), 128)
}

// TestStepsBehindTheTests: a shader that neither gives up nor changes the depth runs only where both tests pass.
func TestStepsBehindTheTests(t *testing.T) {
	small := flatOf(8, 8, 56, 8, 8, 56, 5, red) // 6 pixels
	depths, stencils := small+text(3, 1, 1), text(4, 7, 1, 255, 255, 0, 0, 2)+small+text(4, 5, 1, 255, 255, 3, 3, 0)
	for _, rules := range []string{depths, stencils} {
		savedIn(t, 8, rules+shaderOf(number(0, 1), number(1, 1))+wholeOf(9, red), 58*2)
		savedIn(t, 8, rules+shaderOf(number(0, 1), [4]int{7, 0, 6, 7})+wholeOf(9, red), 64*2)
		savedIn(t, 8, rules+shaderOf(number(6, 1), [4]int{8, 0, 5, 0})+wholeOf(9, red), 64*2)
		savedIn(t, 8, rules+text(8, 0)+wholeOf(9, red), 0)
		// What another shader did has no say.
		savedIn(t, 8, rules+shaderOf([4]int{7, 0, 6, 7}, [4]int{8, 0, 6, 0})+shaderOf(number(0, 1))+wholeOf(9, red), 58)
	}
	savedIn(t, 8, text(3, 0, 1)+shaderOf(number(0, 1))+wholeOf(9, red), 0)
	savedIn(t, 8, text(4, 0, 1, 255, 255, 3, 3, 0)+shaderOf(number(0, 1))+wholeOf(9, red), 0)
	savedIn(t, 8, text(3, 7, 0)+text(7, 0)+shaderOf(number(0, 1))+wholeOf(9, red), 64)
	// As the pixels are drawn, one triangle behind the other.
	savedIn(t, 8, text(3, 1, 1)+shaderOf(number(0, 1))+wholeOf(9, red)+wholeOf(9, red)+small+wholeOf(8, red), 64+6+58)
}

// TestStepsOfWaysThatSaveNone: edges, bounds, marks, one depth and bins leave out only what is not covered.
func TestStepsOfWaysThatSaveNone(t *testing.T) {
	d := dice(51)
	const saving = 1 | 4 | 8
	for range 300 {
		scene := slices.DeleteFunc(d.scene(), func(c string) bool { return c[0] == 12 })
		stream := strings.Join(scene, "")
		want := slowly(stream).steps
		for _, ways := range []int{2, 16, 32, 64, 128, 255 - saving, d.below(256) &^ saving} {
			if got := Steps(stream, ways); got != want {
				t.Fatalf("P5: Steps(%q, %d) = %d, want %d", stream, ways, got, want)
			}
		}
	}
}

// TestStepsWithEveryMask: at most those without ways, and with more ways never more than with fewer.
func TestStepsWithEveryMask(t *testing.T) {
	d := dice(52)
	for range 40 {
		stream := strings.Join(slices.DeleteFunc(d.scene(), func(c string) bool { return c[0] == 12 }), "")
		var made [256]int
		for ways := range made {
			made[ways] = Steps(stream, ways)
		}
		if made[0] != slowly(stream).steps {
			t.Fatalf("P5: Steps(%q, 0) = %d, want %d", stream, made[0], slowly(stream).steps)
		}
		for ways := range made {
			for bit := 1; bit < 256; bit *= 2 {
				if made[ways|bit] > made[ways] || made[ways] < 0 {
					t.Fatalf("P5: %q: %d steps in ways %d, %d in ways %d", stream, made[ways], ways, made[ways|bit], ways|bit)
				}
			}
		}
	}
}
