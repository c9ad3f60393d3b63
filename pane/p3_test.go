package pane

import (
	"slices"
	"testing"
)

// read asks for all three at a pixel.
func read(x, y int) string {
	return text(13, 1, x, y, 13, 2, x, y, 13, 3, x, y)
}

func pixel(c colour, depth, stencil int) []Reply {
	return []Reply{{Pixel, int(c[0]), int(c[1]), int(c[2])}, {Depth, depth, 0, 0}, {Stencil, stencil, 0, 0}}
}

var atFirst = pixel(colour{}, 65535, 0)

func TestPaneAtFirst(t *testing.T) {
	for y := range 8 {
		for x := range 8 {
			wants(t, read(x, y), atFirst...)
		}
	}
	for n := 8; n < 256; n++ {
		wants(t, read(n, 0), fault(ErrArg, 0), fault(ErrArg, 4), fault(ErrArg, 8))
		wants(t, read(7, n), fault(ErrArg, 0), fault(ErrArg, 4), fault(ErrArg, 8))
	}
}

// TestEverySize: every pixel of every size can be read, and none just outside, behind a size and behind a clear.
func TestEverySize(t *testing.T) {
	clear := text(2, 7, 1, 2, 3, 4, 5, 6)
	cleared := pixel(colour{1, 2, 3}, 4*256+5, 6)
	for columns := 1; columns <= 24; columns++ {
		for rows := 1; rows <= 24; rows++ {
			size := text(1, columns, rows)
			stream := clear + size
			var want []Reply
			for _, pixels := range [][]Reply{atFirst, cleared} {
				for y := range rows {
					for x := range columns {
						stream += read(x, y)
						want = append(want, pixels...)
					}
				}
				for _, c := range []string{text(13, 1, columns, 0), text(13, 2, 0, rows), text(13, 3, columns, rows)} {
					want = append(want, fault(ErrArg, len(stream)))
					stream += c
				}
				stream += clear
			}
			for _, ways := range []int{0, 16, 255} {
				if !slices.Equal(Draw(stream, ways), want) {
					t.Fatalf("P3: a pane of %d by %d, ways %d", columns, rows, ways)
				}
			}
		}
	}
}

func TestClearOfEachSum(t *testing.T) {
	for sum := range 8 {
		c, depth, stencil := colour{9, 8, 7}, 6*256+5, 4
		if sum&1 != 0 {
			c = colour{255, 0, 254}
		}
		if sum&2 != 0 {
			depth = 255 * 256
		}
		if sum&4 != 0 {
			stencil = 255
		}
		stream := text(1, 7, 5) + text(2, 7, 9, 8, 7, 6, 5, 4) + text(2, sum, 255, 0, 254, 255, 0, 255)
		for _, p := range [][2]int{{0, 0}, {6, 0}, {0, 4}, {6, 4}, {3, 3}, {4, 4}} {
			wants(t, stream+read(p[0], p[1]), pixel(c, depth, stencil)...)
		}
	}
}

// TestClearGoesOverAll: whatever is drawn on and written.
func TestClearGoesOverAll(t *testing.T) {
	clear := text(2, 7, 1, 2, 3, 4, 5, 6)
	want := pixel(colour{1, 2, 3}, 4*256+5, 6)
	for _, held := range []string{
		text(5, 2, 2, 1, 1), text(5, 0, 0, 0, 0), text(7, 0), text(3, 0, 0), text(4, 0, 0, 0, 0, 0, 0, 0), text(6, 1),
	} {
		for _, p := range [][2]int{{0, 0}, {2, 2}, {7, 0}, {0, 7}, {7, 7}} {
			wants(t, held+clear+read(p[0], p[1]), want...)
		}
	}
}

// TestClearsInTurn: clears by marks and by writing, one behind the other, from a value to another and back.
func TestClearsInTurn(t *testing.T) {
	for turns := range 1 << 8 {
		stream := ""
		var want []Reply
		for i := range 4 {
			stream += text(12, turns>>i&1*16)
			value := turns >> (4 + i) & 1
			stream += text(2, 7, value, value, value, 0, value, value) + read(7, 7) + read(0, 0)
			p := pixel(colour{uint8(value), uint8(value), uint8(value)}, value, value)
			want = append(append(want, p...), p...)
		}
		wants(t, stream, want...)
	}
}

// TestQueryOrders: begin, end and count in all their orders, up to five of them.
func TestQueryOrders(t *testing.T) {
	for n := range 4 {
		for orders := range 3 * 3 * 3 * 3 * 3 {
			begun, known := false, false
			stream := ""
			var want []Reply
			for range 5 {
				place := len(stream)
				switch orders % 3 {
				case 0:
					stream += text(10, n)
					if begun {
						want = append(want, fault(ErrBegun, place))
					}
					begun, known = true, true
				case 1:
					stream += text(11, n)
					if !begun {
						want = append(want, fault(ErrNone, place))
					}
					begun = false
				case 2:
					stream += text(14, n)
					if begun {
						want = append(want, fault(ErrBegun, place))
					} else if !known {
						want = append(want, fault(ErrNone, place))
					} else {
						want = append(want, Reply{Count, n, 0, 0})
					}
				}
				orders /= 3
			}
			wants(t, stream, want...)
		}
	}
}

func TestQueriesAreApart(t *testing.T) {
	wants(t, text(10, 0, 10, 3, 11, 0, 14, 0, 14, 3, 11, 3, 14, 3, 14, 1, 11, 2),
		Reply{Count, 0, 0, 0}, fault(ErrBegun, 8), Reply{Count, 3, 0, 0}, fault(ErrNone, 14), fault(ErrNone, 16))
}

func TestSizeEndsNoQuery(t *testing.T) {
	wants(t, text(10, 1, 1, 3, 3, 10, 1, 11, 1, 1, 4, 4, 14, 1), fault(ErrBegun, 5), Reply{Count, 1, 0, 0})
}

func TestBeginCountsFromZero(t *testing.T) {
	d := newDrawer(text(11, 2, 14, 2, 10, 2, 11, 2, 14, 2), 0)
	d.queries[2] = query{known: true, begun: true, count: 5}
	d.work()
	if want := []Reply{{Count, 2, 5, 0}, {Count, 2, 0, 0}}; !slices.Equal(d.replies, want) {
		t.Errorf("P3: %v, want %v", d.replies, want)
	}
}

// TestQueriesOverTriangles: each counts the pixels that passed while it was begun.
func TestQueriesOverTriangles(t *testing.T) {
	small := flatOf(8, 8, 56, 8, 8, 56, 0, red) // 6 pixels
	whole := wholeOf(9, red)
	wants(t, whole+text(10, 0)+small+text(10, 1)+small+text(11, 0)+whole+text(14, 0)+text(11, 1)+whole+text(14, 1, 14, 0),
		Reply{Count, 0, 12, 0}, Reply{Count, 1, 70, 0}, Reply{Count, 0, 12, 0})
	wants(t, text(10, 0, 10, 1, 10, 2, 10, 3)+small+text(11, 0)+small+text(11, 1)+small+text(11, 2)+small+text(11, 3)+text(14, 0, 14, 1, 14, 2, 14, 3),
		Reply{Count, 0, 6, 0}, Reply{Count, 1, 12, 0}, Reply{Count, 2, 18, 0}, Reply{Count, 3, 24, 0})
	// A new begin counts from 0 on, and one that is wrong changes nothing.
	wants(t, text(10, 2)+whole+text(11, 2)+text(10, 2)+small+text(10, 2)+small+text(11, 2, 14, 2), fault(ErrBegun, 62), Reply{Count, 2, 12, 0})
	// A size ends none.
	wants(t, text(10, 2)+whole+text(1, 2, 3)+whole+text(11, 2, 14, 2), Reply{Count, 2, 70, 0})
	// The window and the faces hold for it, too.
	wants(t, text(10, 2)+text(5, 1, 1, 2, 2)+whole+small+text(6, 2)+whole+text(11, 2, 14, 2), Reply{Count, 2, 5, 0})
}

// TestQueriesCountWhatPasses: not what fails a test or gives up, and what writes nothing all the same.
func TestQueriesCountWhatPasses(t *testing.T) {
	for _, c := range []struct {
		rule string
		want int
	}{
		{"", 64}, {text(3, 0, 1), 0}, {text(3, 7, 0), 64}, {text(4, 0, 0, 255, 255, 0, 0, 0), 0}, {text(4, 7, 0, 255, 0, 2, 2, 2), 64}, {text(7, 0), 64},
		{text(3, 1, 1), 64}, {text(8, 1, 7, 0, 3, 4), 36}, {text(3, 4, 1), 0}, {text(6, 2), 0}, {text(3, 7, 0, 7, 0), 64},
	} {
		wants(t, text(10, 3)+c.rule+wholeOf(9, red)+text(11, 3, 14, 3), Reply{Count, 3, c.want, 0})
	}
	// Each pixel counts for itself.
	wants(t, flatOf(8, 8, 56, 8, 8, 56, 5, red)+text(3, 1, 1)+text(10, 0)+wholeOf(9, red)+text(11, 0, 14, 0), Reply{Count, 0, 58, 0})
}
