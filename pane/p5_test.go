package pane

import (
	"slices"
	"strings"
	"testing"
)

// stepsAre holds Steps without ways against what is wanted; in other ways they are at most that many.
func stepsAre(t *testing.T, stream string, want int) {
	t.Helper()
	for _, ways := range []int{0, 256, -256, 1 << 40} {
		for _, s := range []string{stream, text(12, 0) + stream} {
			if got := Steps(s, ways); got != want {
				t.Errorf("P5: Steps(%q, %d) = %d, want %d", s, ways, got, want)
			}
		}
	}
	for _, ways := range someWays {
		if got := Steps(stream, ways); got < 0 || got > want {
			t.Errorf("P5: Steps(%q, %d) = %d, at most %d", stream, ways, got, want)
		}
		if got := Steps(text(12, ways)+stream, 0); got < 0 || got > want {
			t.Errorf("P5: Steps with command 12 and %d = %d, at most %d", ways, got, want)
		}
	}
}

func TestStepsOfNothing(t *testing.T) {
	two := shaderOf(number(6, 1), number(7, 1))
	for _, stream := range []string{
		"", wholeOf(1, red), two, two + text(8, 0) + wholeOf(1, red), text(15) + two + wholeOf(1, red),
		two + wholeOf(1, red)[:27], two + text(5, 3, 3, 0, 5) + wholeOf(1, red), two + text(5, 3, 3, 5, 0) + wholeOf(1, red),
		two + flatOf(8, 8, 40, 40, 72, 72, 0, red), two + flatOf(-900, 0, -800, 0, -900, 90, 0, red),
		two + text(6, 2) + wholeOf(1, red), text(8, 17) + strings.Repeat(text(0, 0, 0, 0), 17) + wholeOf(1, red),
	} {
		stepsAre(t, stream, 0)
	}
}

// TestStepsAtEveryCoveredPixel: of the window and of faces that are drawn, whatever the tests say.
func TestStepsAtEveryCoveredPixel(t *testing.T) {
	two := shaderOf(number(6, 1), number(7, 1))
	back := flatOf(-1000, -1000, -1000, 4000, 4000, -1000, 1, red)
	stepsAre(t, two+wholeOf(1, red), 128)
	stepsAre(t, two+wholeOf(1, red)+back, 256)
	stepsAre(t, two+text(6, 1)+wholeOf(1, red)+back, 128)
	stepsAre(t, two+text(6, 2)+wholeOf(1, red)+back+back, 256)
	stepsAre(t, two+text(3, 0, 0)+wholeOf(1, red), 128)
	stepsAre(t, two+text(4, 0, 0, 255, 255, 0, 0, 0)+wholeOf(1, red), 128)
	stepsAre(t, two+text(7, 0)+text(3, 7, 0)+wholeOf(1, red), 128)
	stepsAre(t, two+text(3, 1, 1)+wholeOf(1, red)+wholeOf(1, red)+wholeOf(2, red), 384)
	stepsAre(t, two+text(5, 3, 2, 3, 5)+wholeOf(1, red), 30)
	stepsAre(t, two+text(1, 24, 24)+wholeOf(1, red), 2*24*24)
	stepsAre(t, two+flatOf(8, 8, 56, 8, 8, 56, 0, red), 12)
	stepsAre(t, text(8, 16)+strings.Repeat(text(0, 6, 6, 7), 16)+wholeOf(1, red), 16*64)
	stepsAre(t, two+wholeOf(1, red)+shaderOf(number(0, 1))+wholeOf(1, red)+text(8, 0)+wholeOf(1, red), 192)
	stepsAre(t, two+wholeOf(1, red)+text(15)+wholeOf(1, red), 128)
	stepsAre(t, two+text(8, 1, 9, 0, 0, 0)+wholeOf(1, red), 128)
}

// TestStepsOfOneThatGivesUp: the step that gives up is one, and those behind it are none.
func TestStepsOfOneThatGivesUp(t *testing.T) {
	up := [4]int{7, 0, 3, 4}
	for behind := range 4 {
		steps := append([][4]int{number(6, 1), up}, slices.Repeat([][4]int{number(7, 1)}, behind)...)
		stepsAre(t, shaderOf(steps...)+wholeOf(1, red), 28*2+36*(2+behind))
	}
	stepsAre(t, shaderOf(number(6, 1), [4]int{7, 0, 7, 6}, number(6, 1))+wholeOf(1, red), 64*2)
	stepsAre(t, shaderOf([4]int{8, 0, 6, 0}, [4]int{7, 0, 6, 7})+wholeOf(1, red), 64*2)
}
