package pane

import "math"

const (
	maxShader     = 16
	stepBytes     = 4
	registerCount = 8
)

// The registers that mean something at first.
const (
	redRegister = iota
	greenRegister
	blueRegister
	columnRegister
	rowRegister
	depthRegister
)

// registers hold numbers from math.MinInt32 to math.MaxInt32, with room for what
// comes out of a step ahead of being brought there.
type registers [registerCount]int64

// What a shader's step does.
const (
	stepAdd = iota
	stepSubtract
	stepMultiply
	stepLesser
	stepGreater
	stepIsLess
	stepNumber
	stepGiveUp
	stepDepth
)

type step struct {
	what, to, one, two uint8
}

type shader struct {
	steps       []step
	mayGiveUp   bool
	bringsDepth bool
}

// readShader makes a shader of how many steps it has and of their bytes. It answers
// false, if they are too many, or if one of them may not be.
func readShader(args string) (shader, bool) {
	count := int(args[0])
	if count > maxShader {
		return shader{}, false
	}
	s := shader{steps: make([]step, count)}
	for i := range s.steps {
		b := args[1+i*stepBytes:]
		p := step{b[0], b[1], b[2], b[3]}
		if !p.mayBe() {
			return shader{}, false
		}
		s.steps[i] = p
		s.mayGiveUp = s.mayGiveUp || p.what == stepGiveUp
		s.bringsDepth = s.bringsDepth || p.what == stepDepth
	}
	return s, true
}

// canWait tells that no test hangs on what comes out of the shader.
func (s *shader) canWait() bool {
	return !s.mayGiveUp && !s.bringsDepth
}

// mayBe tells whether the step's kind is known, and each byte that is a register
// there is one.
func (s step) mayBe() bool {
	switch s.what {
	case stepAdd, stepSubtract, stepMultiply, stepLesser, stepGreater, stepIsLess:
		if s.to >= registerCount {
			return false
		}
		fallthrough
	case stepGiveUp:
		if s.two >= registerCount {
			return false
		}
		fallthrough
	case stepDepth:
		return s.one < registerCount
	case stepNumber:
		return s.to < registerCount
	}
	return false
}

// shade runs a shader at a pixel. It answers how many steps were made, and false,
// if one gave up.
func (s *sample) shade(steps []step) (made int, goesOn bool) {
	var r registers
	for i, c := range s.colour {
		r[redRegister+i] = int64(c)
	}
	r[columnRegister], r[rowRegister], r[depthRegister] = int64(s.x), int64(s.y), int64(s.depth)
	for i, p := range steps {
		switch p.what {
		case stepGiveUp:
			if r[p.one] < r[p.two] {
				return i + 1, false
			}
		case stepDepth:
			s.depth = uint16(bring(r[p.one], 0, math.MaxUint16))
		default:
			r[p.to] = p.reckon(&r)
		}
	}
	for i := range s.colour {
		s.colour[i] = uint8(bring(r[redRegister+i], 0, math.MaxUint8))
	}
	return len(steps), true
}

// reckon is what comes out of a step that has a register for it.
func (s step) reckon(r *registers) int64 {
	if s.what == stepNumber {
		return int64(int16(s.one)<<8 | int16(s.two)) // here they are no registers
	}
	one, two := r[s.one], r[s.two]
	out := int64(0)
	switch s.what {
	case stepSubtract:
		two = -two
		fallthrough
	case stepAdd:
		out = one + two
	case stepMultiply:
		out = one * two >> 8 // a shift rounds down, a division would not
	case stepLesser:
		out = min(one, two)
	case stepGreater:
		out = max(one, two)
	case stepIsLess:
		if one < two {
			out = 1
		}
	}
	return bring(out, math.MinInt32, math.MaxInt32)
}

// bring is the number from least to most that is next to n.
func bring(n, least, most int64) int64 {
	return max(least, min(n, most))
}
