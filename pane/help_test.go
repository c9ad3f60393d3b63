package pane

import (
	"math"
	"slices"
	"strings"
	"testing"
)

// someWays are masks that the tests draw with: none, all, each alone, and numbers of which only eight bits count.
var someWays = []int{0, 255, 1, 2, 4, 8, 16, 32, 64, 128, 239, -1, 256, 1 << 40, math.MinInt, math.MaxInt}

// text makes a piece of a stream of bytes.
func text(bytes ...int) string {
	var b strings.Builder
	for _, x := range bytes {
		b.WriteByte(byte(x))
	}
	return b.String()
}

// twoOf is a number of two bytes, signed or not.
func twoOf(n int) string { return text(n>>8, n) }

func fault(e Errno, place int) Reply { return Reply{Fault, int(e), place, 0} }

// wants draws a stream in all of someWays, and holds the answers against those wanted.
func wants(t *testing.T, stream string, want ...Reply) {
	t.Helper()
	for _, ways := range someWays {
		if got := Draw(stream, ways); !slices.Equal(got, want) {
			t.Errorf("Draw(%q, %d) = %v, want %v", stream, ways, got, want)
			return
		}
	}
}

// oneOfEach has a good command of every kind.
var oneOfEach = []string{
	text(1, 5, 6),
	text(2, 7, 1, 2, 3, 4, 5, 6),
	text(3, 1, 0),
	text(4, 3, 10, 20, 30, 1, 2, 3),
	text(5, 1, 2, 3, 4),
	text(6, 1),
	text(7, 5),
	text(8, 3, 0, 1, 2, 3, 6, 4, 255, 254, 7, 0, 1, 2),
	text(9) + strings.Repeat("\x01\x02\x03\x04\x05\x06\x07\x08\x09", 3),
	text(10, 2),
	text(11, 2),
	text(12, 16),
	text(13, 1, 4, 5),
	text(14, 2),
}

// spot is a corner: x, y, depth and colour.
type spot struct {
	x, y, depth int
	colour      colour
}

func triangleOf(a, b, c spot) string {
	s := text(9)
	for _, p := range []spot{a, b, c} {
		s += twoOf(p.x) + twoOf(p.y) + twoOf(p.depth) + text(int(p.colour[0]), int(p.colour[1]), int(p.colour[2]))
	}
	return s
}

// flatOf is a triangle of one depth and colour.
func flatOf(ax, ay, bx, by, cx, cy, depth int, c colour) string {
	return triangleOf(spot{ax, ay, depth, c}, spot{bx, by, depth, c}, spot{cx, cy, depth, c})
}

// wholeOf is a front one over all of any pane.
func wholeOf(depth int, c colour) string {
	return flatOf(-1000, -1000, 4000, -1000, -1000, 4000, depth, c)
}

// dice is a row of numbers that looks thrown and is always the same.
type dice uint64

func (d *dice) below(n int) int {
	*d = *d*6364136223846793005 + 1442695040888963407
	return int(uint64(*d) >> 33 % uint64(n))
}

func (d *dice) bytes(n int) string {
	b := make([]byte, n)
	for i := range b {
		b[i] = byte(d.below(256))
	}
	return string(b)
}

// bits throws a byte that has all its bits at times.
func (d *dice) bits() int {
	if d.below(2) == 0 {
		return 255
	}
	return d.below(256)
}

// coordinate throws one near the pane, often at a pixel's middle.
func (d *dice) coordinate() int {
	switch d.below(8) {
	case 0:
		return d.below(65536) - 32768
	case 1:
		return d.below(1200) - 400
	case 2, 3:
		return d.below(200)
	}
	return 16*(d.below(12)-1) + 8
}

// depth throws one that comes again at times.
func (d *dice) depth() int {
	if d.below(3) == 0 {
		return d.below(65536)
	}
	return []int{0, 1, 100, 101, 65534, 65535}[d.below(6)]
}

// triangle throws one whose corners have one depth and colour, or each its own.
func (d *dice) triangle() string {
	s := text(9)
	depth, colour := d.depth(), d.bytes(3)
	flat := d.below(2) == 0
	for range 3 {
		if !flat {
			depth, colour = d.depth(), d.bytes(3)
		}
		s += twoOf(d.coordinate()) + twoOf(d.coordinate()) + twoOf(depth) + colour
	}
	return s
}

// command throws a command whose numbers lie near the edges.
func (d *dice) command() string {
	kind := 1 + d.below(18)
	if kind > 14 {
		kind = 9
	}
	switch kind {
	case 1:
		return text(1, d.below(27), 1+d.below(25))
	case 2:
		return text(2, d.below(9)) + d.bytes(6)
	case 3:
		return text(3, d.below(8+d.below(2)), d.below(2+d.below(2)))
	case 4:
		return text(4, d.below(8+d.below(2)), d.below(9), d.bits(), d.bits(), d.below(8), d.below(8), d.below(8+d.below(2)))
	case 5:
		return text(5, d.below(10), d.below(10), d.below(10), d.below(10))
	case 8:
		n := d.below(18)
		if d.below(2) == 0 {
			n = d.below(4)
		}
		s := text(8, n)
		for range n {
			if d.below(3) == 0 {
				s += text(6, d.below(8)) + d.bytes(2)
			} else {
				s += text(d.below(9), d.below(8), d.below(8), d.below(8+d.below(20)/19))
			}
		}
		return s
	case 9:
		return d.triangle()
	case 12:
		return text(12, d.below(2)*d.below(256))
	case 13:
		return text(13, d.below(5), d.below(25), d.below(25))
	case 6:
		return text(6, d.below(4))
	case 7:
		return text(7, d.below(10))
	}
	return text(kind, d.below(5))
}

// stream throws commands, with a kind that is none now and then, and cuts them off somewhere at times.
func (d *dice) stream() string {
	var b strings.Builder
	for range d.below(60) {
		b.WriteString(d.command())
	}
	s := b.String()
	switch d.below(4) {
	case 0:
		s += text(15 + d.below(241))
	case 1:
		s = s[:d.below(len(s)+1)]
	}
	return s
}
