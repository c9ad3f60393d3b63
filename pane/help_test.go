package pane

import (
	"math"
	"slices"
	"strings"
	"testing"
)

// someWays are masks that the tests draw with: none, all, each alone, and numbers of which only eight bits count.
var someWays = []int{0, 255, 1, 2, 4, 8, 16, 32, 64, 128, 239, -1, 256, 1 << 40, math.MinInt, math.MaxInt}

// text makes a piece of a stream of bytes.
func text(bytes ...int) string {
	var b strings.Builder
	for _, x := range bytes {
		b.WriteByte(byte(x))
	}
	return b.String()
}

func fault(e Errno, place int) Reply { return Reply{Fault, int(e), place, 0} }

// wants draws a stream in all of someWays, and holds the answers against those wanted.
func wants(t *testing.T, stream string, want ...Reply) {
	t.Helper()
	for _, ways := range someWays {
		if got := Draw(stream, ways); !slices.Equal(got, want) {
			t.Errorf("Draw(%q, %d) = %v, want %v", stream, ways, got, want)
			return
		}
	}
}

// oneOfEach has a good command of every kind.
var oneOfEach = []string{
	text(1, 5, 6),
	text(2, 7, 1, 2, 3, 4, 5, 6),
	text(3, 1, 0),
	text(4, 3, 10, 20, 30, 1, 2, 3),
	text(5, 1, 2, 3, 4),
	text(6, 1),
	text(7, 5),
	text(8, 3, 0, 1, 2, 3, 6, 4, 255, 254, 7, 0, 1, 2),
	text(9) + strings.Repeat("\x01\x02\x03\x04\x05\x06\x07\x08\x09", 3),
	text(10, 2),
	text(11, 2),
	text(12, 16),
	text(13, 1, 4, 5),
	text(14, 2),
}

// dice is a row of numbers that looks thrown and is always the same.
type dice uint64

func (d *dice) below(n int) int {
	*d = *d*6364136223846793005 + 1442695040888963407
	return int(uint64(*d) >> 33 % uint64(n))
}

func (d *dice) bytes(n int) string {
	b := make([]byte, n)
	for i := range b {
		b[i] = byte(d.below(256))
	}
	return string(b)
}

// command throws a command whose numbers lie near the edges.
func (d *dice) command() string {
	kind := 1 + d.below(14)
	switch kind {
	case 1:
		return text(1, d.below(27), 1+d.below(25))
	case 2:
		return text(2, d.below(9)) + d.bytes(6)
	case 3, 4:
		args := make([]int, 1+[]int{2, 7}[kind-3])
		for i := range args {
			args[i] = d.below(9)
		}
		args[0] = kind
		return text(args...)
	case 5:
		return text(5, d.below(10), d.below(10), d.below(10), d.below(10))
	case 8:
		n := d.below(18)
		s := text(8, n)
		for range n {
			s += text(d.below(9), d.below(8), d.below(8), d.below(8+d.below(2)))
		}
		return s
	case 9:
		return text(9) + d.bytes(27)
	case 12:
		return text(12, d.below(256))
	case 13:
		return text(13, d.below(5), d.below(25), d.below(25))
	case 6:
		return text(6, d.below(4))
	case 7:
		return text(7, d.below(10))
	}
	return text(kind, d.below(5))
}

// stream throws commands, with a kind that is none now and then, and cuts them off somewhere at times.
func (d *dice) stream() string {
	var b strings.Builder
	for range d.below(60) {
		b.WriteString(d.command())
	}
	s := b.String()
	switch d.below(4) {
	case 0:
		s += text(15 + d.below(241))
	case 1:
		s = s[:d.below(len(s)+1)]
	}
	return s
}
