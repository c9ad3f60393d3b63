package pane

const (
	maxShader = 16
	stepBytes = 4
	registers = 8
)

// What a shader's step does.
const (
	stepAdd = iota
	stepSubtract
	stepMultiply
	stepLesser
	stepGreater
	stepIsLess
	stepNumber
	stepGiveUp
	stepDepth
)

type step struct {
	what, to, one, two uint8
}

// readSteps makes a shader of how many steps it has and of their bytes. It answers
// false, if they are too many, or if one of them may not be.
func readSteps(args string) ([]step, bool) {
	count := int(args[0])
	if count > maxShader {
		return nil, false
	}
	steps := make([]step, count)
	for i := range steps {
		b := args[1+i*stepBytes:]
		steps[i] = step{b[0], b[1], b[2], b[3]}
		if !steps[i].mayBe() {
			return nil, false
		}
	}
	return steps, true
}

// mayBe tells whether the step's kind is known, and each byte that is a register
// there is one.
func (s step) mayBe() bool {
	switch s.what {
	case stepAdd, stepSubtract, stepMultiply, stepLesser, stepGreater, stepIsLess:
		if s.to >= registers {
			return false
		}
		fallthrough
	case stepGiveUp:
		if s.two >= registers {
			return false
		}
		fallthrough
	case stepDepth:
		return s.one < registers
	case stepNumber:
		return s.to < registers
	}
	return false
}
