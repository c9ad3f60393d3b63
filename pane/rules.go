package pane

// The tests of depths and stencils.
const (
	testNever = iota
	testLess
	testEqual
	testLessOrEqual
	testGreater
	testNotEqual
	testGreaterOrEqual
	testAlways
)

// What is done with a stencil.
const (
	stencilStays = iota
	stencilZero
	stencilValue
	stencilUp
	stencilDown
	stencilTurned
	stencilUpAround
	stencilDownAround
)

// Which faces are drawn.
const (
	bothFaces = iota
	frontFaces
	backFaces
)

// The ways to draw more quickly, as bits.
const (
	wayUnseen = 1 << iota
	wayEdges
	wayDepthRange
	wayEarlyTests
	wayMarks
	wayOneDepth
	wayBins
	wayBounds
	allWays = 1<<iota - 1
)

// allColours has the bits of red, green and blue.
const allColours = 7

type depthRule struct {
	test    uint8
	written bool
}

type stencilRule struct {
	test, value, which, writes    uint8
	ifFails, ifDepthFails, ifBoth uint8 // what is done with the stencil
}

// rules is what commands lay down for the triangles behind them.
type rules struct {
	depth   depthRule
	stencil stencilRule
	faces   uint8
	written uint8 // colours, as bits
	shader  []step
	ways    int
}

func firstRules(ways int) rules {
	return rules{
		depth:   depthRule{test: testAlways, written: true},
		stencil: stencilRule{test: testAlways, which: 255, writes: 255},
		written: allColours,
		ways:    ways & allWays,
	}
}

func (r *rules) setDepth(args string) Errno {
	if args[0] > testAlways || args[1] > 1 {
		return ErrArg
	}
	r.depth = depthRule{test: args[0], written: args[1] == 1}
	return OK
}

func (r *rules) setStencil(args string) Errno {
	if args[0] > testAlways || max(args[4], args[5], args[6]) > stencilDownAround {
		return ErrArg
	}
	r.stencil = stencilRule{args[0], args[1], args[2], args[3], args[4], args[5], args[6]}
	return OK
}

func (r *rules) setFaces(args string) Errno {
	if args[0] > backFaces {
		return ErrArg
	}
	r.faces = args[0]
	return OK
}

func (r *rules) setColours(args string) Errno {
	if args[0] > allColours {
		return ErrArg
	}
	r.written = args[0]
	return OK
}

func (r *rules) setShader(args string) Errno {
	steps, ok := readSteps(args)
	if !ok {
		return ErrArg
	}
	r.shader = steps
	return OK
}

func (r *rules) setWays(args string) Errno {
	r.ways = int(args[0])
	return OK
}

// uses tells whether a way is switched on.
func (r *rules) uses(way int) bool {
	return r.ways&way != 0
}
