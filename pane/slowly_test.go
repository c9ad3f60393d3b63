package pane

import (
	"slices"
	"testing"
)

// slowPane works a stream as plainly as may be: no tiles, no marks, no table. It is what Draw is held against.
type slowPane struct {
	w, h    int
	pixels  [24][24][5]int
	begun   [4]bool
	known   [4]bool
	replies []Reply
}

func (p *slowPane) size(w, h int) {
	p.w, p.h = w, h
	for y := range p.pixels {
		for x := range p.pixels[y] {
			p.pixels[y][x] = [5]int{0, 0, 0, 65535, 0}
		}
	}
}

func (p *slowPane) clear(a []int) {
	for y := range p.pixels {
		for x := range p.pixels[y] {
			q := &p.pixels[y][x]
			if a[0]&1 != 0 {
				q[0], q[1], q[2] = a[1], a[2], a[3]
			}
			if a[0]&2 != 0 {
				q[3] = a[4]*256 + a[5]
			}
			if a[0]&4 != 0 {
				q[4] = a[6]
			}
		}
	}
}

func wrongShader(a []int) bool {
	for i := 1; i < len(a); i += 4 {
		what, to, one, two := a[i], a[i+1] > 7, a[i+2] > 7, a[i+3] > 7
		if what > 8 || what < 6 && (to || one || two) || what == 6 && to || what == 7 && (one || two) || what == 8 && one {
			return true
		}
	}
	return a[0] > 16
}

// wrong tells what is wrong with a command, if anything is.
func (p *slowPane) wrong(kind int, a []int) Errno {
	arg := false
	switch kind {
	case 1:
		arg = a[0] < 1 || a[0] > 24 || a[1] < 1 || a[1] > 24
	case 2, 7:
		arg = a[0] > 7
	case 3:
		arg = a[0] > 7 || a[1] > 1
	case 4:
		arg = a[0] > 7 || a[4] > 7 || a[5] > 7 || a[6] > 7
	case 5:
		arg = a[0]+a[2] > p.w || a[1]+a[3] > p.h
	case 6:
		arg = a[0] > 2
	case 8:
		arg = wrongShader(a)
	case 10, 11, 14:
		arg = a[0] > 3
	case 13:
		arg = a[0] < 1 || a[0] > 3 || a[1] >= p.w || a[2] >= p.h
	}
	switch {
	case arg:
		return ErrArg
	case (kind == 10 || kind == 14) && p.begun[a[0]]:
		return ErrBegun
	case kind == 11 && !p.begun[a[0]], kind == 14 && !p.known[a[0]]:
		return ErrNone
	}
	return OK
}

func (p *slowPane) do(kind int, a []int) {
	switch kind {
	case 1:
		p.size(a[0], a[1])
	case 2:
		p.clear(a)
	case 10:
		p.begun[a[0]], p.known[a[0]] = true, true
	case 11:
		p.begun[a[0]] = false
	case 13:
		q := p.pixels[a[2]][a[1]]
		p.replies = append(p.replies, []Reply{{1, q[0], q[1], q[2]}, {2, q[3], 0, 0}, {3, q[4], 0, 0}}[a[0]-1])
	case 14:
		p.replies = append(p.replies, Reply{4, a[0], 0, 0})
	}
}

func slowly(stream string) []Reply {
	p := &slowPane{}
	p.size(8, 8)
	for i := 0; i < len(stream); {
		kind, n := int(stream[i]), -1
		if kind >= 1 && kind <= 14 {
			n = []int{2, 7, 2, 7, 4, 1, 1, 1, 27, 1, 1, 1, 3, 1}[kind-1]
		}
		if kind == 8 && i+1 < len(stream) {
			n += 4 * int(stream[i+1])
		}
		if n < 0 || i+1+n > len(stream) {
			return append(p.replies, Reply{0, 1, i, 0})
		}
		var a []int
		for _, b := range []byte(stream[i+1 : i+1+n]) {
			a = append(a, int(b))
		}
		if e := p.wrong(kind, a); e != OK {
			p.replies = append(p.replies, Reply{0, int(e), i, 0})
		} else {
			p.do(kind, a)
		}
		i += 1 + n
	}
	return p.replies
}

// TestAsIfSlowly: thrown streams are answered as slowly as they are, in any ways.
func TestAsIfSlowly(t *testing.T) {
	d := dice(7)
	kinds := map[[2]int]int{}
	for range 20000 {
		stream := d.stream()
		want := slowly(stream)
		for _, r := range want {
			if r.Kind == Fault {
				kinds[[2]int{Fault, r.A}]++
			} else {
				kinds[[2]int{r.Kind, 0}]++
			}
		}
		for _, ways := range []int{0, 255, d.below(256)} {
			if got := Draw(stream, ways); !slices.Equal(got, want) {
				t.Fatalf("Draw(%q, %d) = %v, want %v", stream, ways, got, want)
			}
		}
	}
	if len(kinds) != 8 {
		t.Errorf("the thrown streams brought only these replies: %v", kinds)
	}
}
