package pane

import (
	"slices"
	"strings"
	"testing"
)

func TestEmptyStream(t *testing.T) {
	wants(t, "")
}

// answers draws and counts twice: neither may panic, and both answer the same again, in new memory.
func answers(t *testing.T, stream string, ways int) []Reply {
	t.Helper()
	first := Draw(stream, ways)
	kept := slices.Clone(first)
	second := Draw(stream, ways)
	for i := range first {
		first[i] = Reply{-1, -1, -1, -1}
	}
	if !slices.Equal(kept, second) {
		t.Fatalf("P1: Draw(%q, %d) = %v, then %v", stream, ways, kept, second)
	}
	if third := Draw(stream, ways); !slices.Equal(kept, third) {
		t.Fatalf("P1: Draw(%q, %d) = %v, and %v when an answer was changed", stream, ways, kept, third)
	}
	if a, b := Steps(stream, ways), Steps(stream, ways); a != b {
		t.Fatalf("P1: Steps(%q, %d) = %d, then %d", stream, ways, a, b)
	}
	return kept
}

func TestNeverPanics(t *testing.T) {
	all := strings.Join(oneOfEach, "")
	for _, ways := range someWays {
		for n := range len(all) + 1 {
			answers(t, all[:n], ways)
			answers(t, all[n:], ways)
		}
	}
	for a := range 256 {
		answers(t, text(a), a)
		for b := range 256 {
			answers(t, text(a, b), b)
			answers(t, text(a, b)+strings.Repeat("\xff", 40), a)
			answers(t, text(a)+strings.Repeat(text(b), 40), a)
		}
	}
	d := dice(1)
	for range 5000 {
		answers(t, d.bytes(d.below(300)), d.below(1<<20)-1<<19)
		answers(t, d.stream(), d.below(256))
	}
}

func TestLongStreams(t *testing.T) {
	for _, ways := range []int{0, 255} {
		for _, c := range oneOfEach {
			const n = 20000
			stream := strings.Repeat(c, n) + text(14, 0)
			got := Draw(stream, ways)
			if last := got[len(got)-1]; last != fault(ErrNone, n*len(c)) {
				t.Errorf("P1: behind %d times %q: %v", n, c, last)
			}
		}
	}
}

// TestManyTriangles: of the greatest shader, over the greatest pane.
func TestManyTriangles(t *testing.T) {
	const n = 1000
	shader := text(8, 16) + strings.Repeat(text(2, 0, 0, 5), 16)
	stream := text(1, 24, 24) + text(10, 0) + shader + strings.Repeat(wholeOf(65535, colour{255, 255, 255}), n) + text(11, 0, 14, 0)
	for _, ways := range []int{0, 255} {
		if got := Draw(stream, ways); !slices.Equal(got, []Reply{{Count, 0, n * 24 * 24, 0}}) {
			t.Errorf("P1: %v", got)
		}
	}
	if got := Steps(stream, 0); got != n*24*24*16 {
		t.Errorf("P1: %d steps", got)
	}
}

func TestOneAnswerIsNotSharedWithAnother(t *testing.T) {
	stream := strings.Repeat(text(13, 2, 0, 0), 5)
	a, b := Draw(stream, 0), Draw(stream, 0)
	_ = append(a[:2], Reply{Kind: 9})
	a[0].A = 7
	if want := Draw(stream, 0); !slices.Equal(b, want) {
		t.Errorf("P1: %v, want %v", b, want)
	}
}

func FuzzDraw(f *testing.F) {
	f.Add("", 0)
	f.Add(strings.Join(oneOfEach, ""), 255)
	for _, c := range oneOfEach {
		f.Add(c, 16)
	}
	d := dice(3)
	for range 20 {
		f.Add(d.stream(), d.below(256))
	}
	f.Fuzz(func(t *testing.T, stream string, ways int) {
		answers(t, stream, ways)
		asSlowly(t, stream, ways, 0)
	})
}
