package pane

import (
	"reflect"
	"slices"
	"strings"
	"testing"
)

func TestNumbers(t *testing.T) {
	for i, e := range []Errno{OK, ErrText, ErrArg, ErrBegun, ErrNone} {
		if int(e) != i {
			t.Errorf("error %d is %d", i, e)
		}
	}
	for i, k := range []int{Fault, Pixel, Depth, Stencil, Count} {
		if k != i {
			t.Errorf("kind of reply %d is %d", i, k)
		}
	}
}

// sentinel replies a fault of its own place, wherever it is worked.
var sentinel = text(14, 4)

func TestKindsThatAreNone(t *testing.T) {
	for kind := range 256 {
		if kind >= 1 && kind <= 14 {
			continue
		}
		wants(t, text(kind), fault(ErrText, 0))
		wants(t, sentinel+text(kind)+sentinel, fault(ErrArg, 0), fault(ErrText, 2))
	}
}

func TestEndsTooEarly(t *testing.T) {
	for _, c := range oneOfEach {
		for n := 1; n < len(c); n++ {
			wants(t, sentinel+c[:n], fault(ErrArg, 0), fault(ErrText, 2))
		}
	}
	// That the stream ends comes ahead of what is wrong with the numbers.
	wants(t, text(1, 0), fault(ErrText, 0))
	wants(t, text(10), fault(ErrText, 0))
	wants(t, text(8, 17)+strings.Repeat("\x00", 67), fault(ErrText, 0))
	wants(t, text(8, 255)+strings.Repeat("\x00", 4*255-1), fault(ErrText, 0))
	wants(t, text(8, 2, 9, 0, 0, 0), fault(ErrText, 0))
}

// TestLengths: the command behind each kind begins where the document says.
func TestLengths(t *testing.T) {
	behind := []int{2, 7, 2, 7, 4, 1, 1, 13, 27, 1, 1, 1, 3, 1}
	for i, c := range oneOfEach {
		if len(c) != 1+behind[i] {
			t.Fatalf("kind %d has %d bytes", i+1, len(c))
		}
		got := Draw(c+sentinel, 0)
		if last := got[len(got)-1]; last != fault(ErrArg, len(c)) {
			t.Errorf("P2: behind %q: %v", c, got)
		}
	}
	for n := range 256 {
		steps := strings.Repeat("\x00", 4*n)
		if n <= 16 {
			wants(t, text(8, n)+steps+sentinel, fault(ErrArg, 2+4*n))
		} else {
			wants(t, text(8, n)+steps+sentinel, fault(ErrArg, 0), fault(ErrArg, 2+4*n))
		}
	}
}

// before makes a state in which nothing is as at first, so that what a wrong command changes is seen.
var before = text(1, 9, 7) + text(2, 7, 11, 12, 13, 14, 15, 16) + text(3, 2, 0) + text(4, 1, 2, 3, 4, 5, 6, 7) +
	text(5, 1, 2, 3, 4) + text(6, 2) + text(7, 3) + text(8, 1, 6, 5, 4, 3) +
	text(10, 1) + text(10, 2) + text(11, 2) + text(12, 40)

// state is all that a stream leaves behind, but for what was replied and read.
func state(stream string) drawer {
	d := newDrawer(stream, 255)
	d.work()
	d.reader, d.replies = reader{}, nil
	return *d
}

func good(t *testing.T, command string) {
	t.Helper()
	got := Draw(before+command+sentinel, 0)
	if len(got) == 0 || got[0] != fault(ErrArg, len(before)+len(command)) {
		t.Errorf("P2: %q is good, yet %v", command, got)
	}
}

func bad(t *testing.T, e Errno, command string) {
	t.Helper()
	n := len(before)
	wants(t, before+command+sentinel, fault(e, n), fault(ErrArg, n+len(command)))
	if !reflect.DeepEqual(state(before), state(before+command)) {
		t.Errorf("P2: %q has a fault, and does something all the same", command)
	}
}

func check(t *testing.T, isGood bool, command string) {
	t.Helper()
	if isGood {
		good(t, command)
	} else {
		bad(t, ErrArg, command)
	}
}

func TestSizeNumbers(t *testing.T) {
	for n := range 256 {
		fits := n >= 1 && n <= 24
		for _, other := range []int{1, 8, 24} {
			check(t, fits, text(1, n, other))
			check(t, fits, text(1, other, n))
		}
		check(t, false, text(1, n, 0))
		check(t, false, text(1, 25, n))
	}
}

func TestClearDepthFacesColoursNumbers(t *testing.T) {
	for n := range 256 {
		check(t, n <= 7, text(2, n, 255, 255, 255, 255, 255, 255))
		check(t, n <= 7, text(3, n, 0))
		check(t, n <= 7, text(3, n, 1))
		check(t, n <= 1, text(3, 0, n))
		check(t, n <= 1, text(3, 7, n))
		check(t, n <= 2, text(6, n))
		check(t, n <= 7, text(7, n))
		check(t, true, text(12, n))
	}
}

func TestStencilNumbers(t *testing.T) {
	for place := range 7 {
		for n := range 256 {
			args := []int{4, 7, 255, 255, 255, 7, 7, 7}
			args[1+place] = n
			anything := place >= 1 && place <= 3
			check(t, anything || n <= 7, text(args...))
		}
	}
}

func TestWindowNumbers(t *testing.T) {
	edges := []int{0, 1, 2, 6, 7, 8, 9, 10, 127, 128, 247, 248, 249, 250, 254, 255}
	for _, x := range edges {
		for _, columns := range edges {
			check(t, x+columns <= 9, text(5, x, 0, columns, 7))
			check(t, x+columns <= 9, text(5, x, 7, columns, 0))
			check(t, x+columns <= 7, text(5, 0, x, 9, columns))
			check(t, x+columns <= 7, text(5, 9, x, 0, columns))
		}
	}
	// The pane of now counts, not that of earlier.
	wants(t, text(5, 0, 0, 9, 8)+text(1, 9, 9)+text(5, 0, 0, 9, 8)+text(1, 3, 3)+text(5, 0, 0, 4, 3), fault(ErrArg, 0), fault(ErrArg, 16))
}

func everyByte(yield func(int) bool) {
	for n := range 256 {
		if !yield(n) {
			return
		}
	}
}

func TestShaderNumbers(t *testing.T) {
	for what := range 256 {
		numbers := []int{0, 7, 8, 255}
		if what <= 9 {
			numbers = slices.Collect(everyByte)
		}
		for _, n := range numbers {
			register := n <= 7
			check(t, what <= 8 && (what >= 7 || register), text(8, 1, what, n, 0, 0))
			check(t, what <= 8 && (what == 6 || register), text(8, 1, what, 0, n, 0))
			check(t, what <= 8 && (what == 6 || what == 8 || register), text(8, 1, what, 0, 0, n))
		}
	}
	for n := 1; n <= 16; n++ {
		for at := range n {
			steps := strings.Repeat("\x00\x00\x00\x00", at) + "\x09\x00\x00\x00" + strings.Repeat("\x00\x00\x00\x00", n-at-1)
			bad(t, ErrArg, text(8, n)+steps)
		}
		good(t, text(8, n)+strings.Repeat("\x00\x07\x07\x07", n))
	}
	good(t, text(8, 0))
	bad(t, ErrArg, text(8, 17)+strings.Repeat("\x00", 68))
}

func TestQueryNumbers(t *testing.T) {
	for n := 4; n < 256; n++ {
		bad(t, ErrArg, text(10, n))
		bad(t, ErrArg, text(11, n))
		bad(t, ErrArg, text(14, n))
	}
	bad(t, ErrBegun, text(10, 1))
	bad(t, ErrBegun, text(14, 1))
	for _, n := range []int{0, 2, 3} {
		bad(t, ErrNone, text(11, n))
	}
	bad(t, ErrNone, text(14, 0))
	bad(t, ErrNone, text(14, 3))
}

func TestPixelNumbers(t *testing.T) {
	for n := range 256 {
		if n == 0 || n > 3 {
			bad(t, ErrArg, text(13, n, 0, 0))
			bad(t, ErrArg, text(13, n, 9, 7))
		}
		for what := 1; what <= 3; what++ {
			if n >= 9 {
				bad(t, ErrArg, text(13, what, n, 0))
			}
			if n >= 7 {
				bad(t, ErrArg, text(13, what, 0, n))
			}
		}
	}
}

// TestWhatCommandsLayDown: what triangles will be drawn by is kept as it was told.
func TestWhatCommandsLayDown(t *testing.T) {
	first := state("")
	want := rules{
		depth:   depthRule{testAlways, true},
		stencil: stencilRule{test: testAlways, which: 255, writes: 255},
		written: 7,
		ways:    255,
	}
	if !reflect.DeepEqual(first.rules, want) || first.window != (box{0, 0, 8, 8}) || first.queries != (queries{}) {
		t.Errorf("at first: %+v, %+v", first.rules, first.window)
	}
	d := state(before)
	want = rules{
		depth:   depthRule{testEqual, false},
		stencil: stencilRule{1, 2, 3, 4, 5, 6, 7},
		faces:   backFaces,
		written: 3,
		shader:  shader{steps: []step{{6, 5, 4, 3}}},
		ways:    40,
	}
	if !reflect.DeepEqual(d.rules, want) || d.window != (box{1, 2, 3, 4}) {
		t.Errorf("told: %+v, %+v", d.rules, d.window)
	}
	after := state(before + text(1, 24, 1))
	if !reflect.DeepEqual(after.rules, want) || after.queries != d.queries {
		t.Errorf("behind a size: %+v, %+v", after.rules, after.queries)
	}
	if after.window != (box{0, 0, 24, 1}) {
		t.Errorf("behind a size the window is %+v", after.window)
	}
}

func TestWaysAtFirst(t *testing.T) {
	for _, ways := range someWays {
		if got := newDrawer("", ways).ways; got != ways&255 {
			t.Errorf("ways %d are %d", ways, got)
		}
	}
}
