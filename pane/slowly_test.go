package pane

import (
	"slices"
	"testing"
)

// slowPane works a stream as plainly as may be: no tiles, no marks, no table, no ways. It is what Draw and Steps are held against.
type slowPane struct {
	w, h       int
	pixels     [24][24][5]int // red, green, blue, depth, stencil
	window     []int
	depth      []int
	stencil    []int
	faces      int
	colours    int
	shader     []int
	begun      [4]bool
	known      [4]bool
	counts     [4]int
	steps      int
	switchedOn bool // by a command, whatever was switched on
	replies    []Reply
}

func newSlowPane() *slowPane {
	p := &slowPane{depth: []int{7, 1}, stencil: []int{7, 0, 255, 255, 0, 0, 0}, colours: 7}
	p.size(8, 8)
	return p
}

func (p *slowPane) size(w, h int) {
	p.w, p.h = w, h
	p.window = []int{0, 0, w, h}
	for y := range p.pixels {
		for x := range p.pixels[y] {
			p.pixels[y][x] = [5]int{0, 0, 0, 65535, 0}
		}
	}
}

func (p *slowPane) clear(a []int) {
	for y := range p.pixels {
		for x := range p.pixels[y] {
			q := &p.pixels[y][x]
			if a[0]&1 != 0 {
				q[0], q[1], q[2] = a[1], a[2], a[3]
			}
			if a[0]&2 != 0 {
				q[3] = a[4]*256 + a[5]
			}
			if a[0]&4 != 0 {
				q[4] = a[6]
			}
		}
	}
}

func wrongShader(a []int) bool {
	for i := 1; i < len(a); i += 4 {
		what, to, one, two := a[i], a[i+1] > 7, a[i+2] > 7, a[i+3] > 7
		if what > 8 || what < 6 && (to || one || two) || what == 6 && to || what == 7 && (one || two) || what == 8 && one {
			return true
		}
	}
	return a[0] > 16
}

// wrong tells what is wrong with a command, if anything is.
func (p *slowPane) wrong(kind int, a []int) Errno {
	arg := false
	switch kind {
	case 1:
		arg = a[0] < 1 || a[0] > 24 || a[1] < 1 || a[1] > 24
	case 2, 7:
		arg = a[0] > 7
	case 3:
		arg = a[0] > 7 || a[1] > 1
	case 4:
		arg = a[0] > 7 || a[4] > 7 || a[5] > 7 || a[6] > 7
	case 5:
		arg = a[0]+a[2] > p.w || a[1]+a[3] > p.h
	case 6:
		arg = a[0] > 2
	case 8:
		arg = wrongShader(a)
	case 10, 11, 14:
		arg = a[0] > 3
	case 13:
		arg = a[0] < 1 || a[0] > 3 || a[1] >= p.w || a[2] >= p.h
	}
	switch {
	case arg:
		return ErrArg
	case (kind == 10 || kind == 14) && p.begun[a[0]]:
		return ErrBegun
	case kind == 11 && !p.begun[a[0]], kind == 14 && !p.known[a[0]]:
		return ErrNone
	}
	return OK
}

func (p *slowPane) do(kind int, a []int) {
	switch kind {
	case 1:
		p.size(a[0], a[1])
	case 2:
		p.clear(a)
	case 3:
		p.depth = a
	case 4:
		p.stencil = a
	case 5:
		p.window = a
	case 6:
		p.faces = a[0]
	case 7:
		p.colours = a[0]
	case 8:
		p.shader = a[1:]
	case 9:
		p.triangle(a)
	case 10:
		p.begun[a[0]], p.known[a[0]], p.counts[a[0]] = true, true, 0
	case 11:
		p.begun[a[0]] = false
	case 12:
		p.switchedOn = p.switchedOn || a[0] != 0
	case 13:
		q := p.pixels[a[2]][a[1]]
		p.replies = append(p.replies, []Reply{{1, q[0], q[1], q[2]}, {2, q[3], 0, 0}, {3, q[4], 0, 0}}[a[0]-1])
	case 14:
		p.replies = append(p.replies, Reply{4, a[0], p.counts[a[0]], 0})
	}
}

// slowCorner is x, y, red, green, blue, depth.
type slowCorner [6]int

func slowE(a, b slowCorner, px, py int) int {
	return (b[0]-a[0])*(py-a[1]) - (b[1]-a[1])*(px-a[0])
}

func slowSigned(high, low int) int {
	n := high*256 + low
	if n > 32767 {
		n -= 65536
	}
	return n
}

func slowCorners(a []int) (c [3]slowCorner) {
	for i := range c {
		b := a[9*i:]
		c[i] = slowCorner{slowSigned(b[0], b[1]), slowSigned(b[2], b[3]), b[6], b[7], b[8], b[4]*256 + b[5]}
	}
	return c
}

func (p *slowPane) triangle(args []int) {
	l := slowCorners(args)
	a, b, c := l[0], l[1], l[2]
	area := slowE(a, b, c[0], c[1])
	if area == 0 || p.faces == 1 && area < 0 || p.faces == 2 && area > 0 {
		return
	}
	if area < 0 {
		b, c, area = c, b, -area
	}
	covers := func(from, to slowCorner, e int) bool {
		up, right := to[1] < from[1], to[1] == from[1] && to[0] > from[0]
		return e > 0 || e == 0 && (up || right)
	}
	for y := p.window[1]; y < p.window[1]+p.window[3]; y++ {
		for x := p.window[0]; x < p.window[0]+p.window[2]; x++ {
			px, py := 16*x+8, 16*y+8
			u, v, w := slowE(b, c, px, py), slowE(c, a, px, py), slowE(a, b, px, py)
			if covers(b, c, u) && covers(c, a, v) && covers(a, b, w) {
				var got [4]int
				for i := range got {
					got[i] = (u*a[2+i] + v*b[2+i] + w*c[2+i]) / area
				}
				p.shade(x, y, got)
			}
		}
	}
}

func slowBounded(n, least, most int) int {
	if n < least {
		return least
	}
	if n > most {
		return most
	}
	return n
}

func slowStep(s []int, r [8]int) int {
	if s[0] == 6 {
		return slowSigned(s[2], s[3])
	}
	one, two, out := r[s[2]], r[s[3]], 0
	switch s[0] {
	case 0:
		out = one + two
	case 1:
		out = one - two
	case 2:
		out = one * two / 256
		if one*two < 0 && one*two%256 != 0 {
			out--
		}
	case 3:
		out = one
		if two < one {
			out = two
		}
	case 4:
		out = one
		if two > one {
			out = two
		}
	case 5:
		if one < two {
			out = 1
		}
	}
	return slowBounded(out, -1<<31, 1<<31-1)
}

func (p *slowPane) shade(x, y int, got [4]int) {
	r := [8]int{got[0], got[1], got[2], x, y, got[3], 0, 0}
	depth := got[3]
	for s := p.shader; len(s) > 0; s = s[4:] {
		p.steps++
		switch {
		case s[0] == 7 && r[s[2]] < r[s[3]]:
			return
		case s[0] == 8:
			depth = slowBounded(r[s[2]], 0, 65535)
		case s[0] < 7:
			r[s[1]] = slowStep(s, r)
		}
	}
	p.test(&p.pixels[y][x], [4]int{slowBounded(r[0], 0, 255), slowBounded(r[1], 0, 255), slowBounded(r[2], 0, 255), depth})
}

func slowTest(test, comes, there int) bool {
	return []bool{false, comes < there, comes == there, comes <= there, comes > there, comes != there, comes >= there, true}[test]
}

func (p *slowPane) test(q *[5]int, got [4]int) {
	s := p.stencil
	done := s[4]
	if slowTest(s[0], s[1]&s[2], q[4]&s[2]) {
		done = s[5]
		if slowTest(p.depth[0], got[3], q[3]) {
			done = s[6]
			p.write(q, got)
		}
	}
	old := q[4]
	becomes := []int{old, 0, s[1], min(old+1, 255), max(old-1, 0), 255 - old, (old + 1) % 256, (old + 255) % 256}[done]
	q[4] = 0
	for bit := 1; bit < 256; bit *= 2 {
		if s[3]&bit != 0 {
			q[4] += becomes & bit
		} else {
			q[4] += old & bit
		}
	}
}

func (p *slowPane) write(q *[5]int, got [4]int) {
	if p.depth[1] == 1 {
		q[3] = got[3]
	}
	for i := range 3 {
		if p.colours>>i&1 == 1 {
			q[i] = got[i]
		}
	}
	for n := range p.counts {
		if p.begun[n] {
			p.counts[n]++
		}
	}
}

func (p *slowPane) work(stream string) {
	for i := 0; i < len(stream); {
		kind, n := int(stream[i]), -1
		if kind >= 1 && kind <= 14 {
			n = []int{2, 7, 2, 7, 4, 1, 1, 1, 27, 1, 1, 1, 3, 1}[kind-1]
		}
		if kind == 8 && i+1 < len(stream) {
			n += 4 * int(stream[i+1])
		}
		if n < 0 || i+1+n > len(stream) {
			p.replies = append(p.replies, Reply{0, 1, i, 0})
			return
		}
		var a []int
		for _, b := range []byte(stream[i+1 : i+1+n]) {
			a = append(a, int(b))
		}
		if e := p.wrong(kind, a); e != OK {
			p.replies = append(p.replies, Reply{0, int(e), i, 0})
		} else {
			p.do(kind, a)
		}
		i += 1 + n
	}
}

func slowly(stream string) *slowPane {
	p := newSlowPane()
	p.work(stream)
	return p
}

// asSlowly holds Draw and Steps against the slow pane.
func asSlowly(t *testing.T, stream string, ways ...int) *slowPane {
	t.Helper()
	want := slowly(stream)
	for _, w := range ways {
		if got := Draw(stream, w); !slices.Equal(got, want.replies) {
			t.Fatalf("Draw(%q, %d) = %v, want %v", stream, w, got, want.replies)
		}
		n := Steps(stream, w)
		if n > want.steps || n < 0 {
			t.Fatalf("P5: Steps(%q, %d) = %d, and they are at most %d", stream, w, n, want.steps)
		}
		if w&255 == 0 && !want.switchedOn && n != want.steps {
			t.Fatalf("P5: Steps(%q, %d) = %d, want %d", stream, w, n, want.steps)
		}
	}
	return want
}

// readAll ends and reads all there is, once a stream is worked.
func readAll(stream string) string {
	p := slowly(stream)
	s := stream
	for n := range 4 {
		s += text(11, n, 14, n)
	}
	for y := range p.h {
		for x := range p.w {
			s += read(x, y)
		}
	}
	return s
}

// TestAsIfSlowly: thrown streams are answered as slowly as they are, in any ways.
func TestAsIfSlowly(t *testing.T) {
	d := dice(7)
	kinds := map[[2]int]int{}
	counted, steps, without := 0, 0, 0
	for range 5000 {
		stream := d.stream()
		if d.below(2) == 0 {
			stream = readAll(stream)
		}
		p := asSlowly(t, stream, 0, 255, d.below(256))
		for _, r := range p.replies {
			if r.Kind == Fault {
				kinds[[2]int{Fault, r.A}]++
			} else {
				kinds[[2]int{r.Kind, 0}]++
			}
			if r.Kind == Count && r.B > 0 {
				counted++
			}
		}
		if p.steps > 0 {
			steps++
			if !p.switchedOn {
				without++
			}
		}
	}
	if len(kinds) != 8 || min(counted, steps, without) < 100 {
		t.Errorf("the thrown streams brought only these replies: %v, %d counts, steps in %d, %d without ways", kinds, counted, steps, without)
	}
}
