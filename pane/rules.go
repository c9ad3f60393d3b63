package pane

import (
	"cmp"
	"math"
)

// The tests of depths and stencils.
const (
	testNever = iota
	testLess
	testEqual
	testLessOrEqual
	testGreater
	testNotEqual
	testGreaterOrEqual
	testAlways
)

// What is done with a stencil.
const (
	stencilStays = iota
	stencilZero
	stencilValue
	stencilUp
	stencilDown
	stencilTurned
	stencilUpAround
	stencilDownAround
)

// Which faces are drawn.
const (
	bothFaces = iota
	frontFaces
	backFaces
)

// The ways to draw more quickly, as bits.
const (
	wayUnseen = 1 << iota
	wayEdges
	wayDepthRange
	wayEarlyTests
	wayMarks
	wayOneDepth
	wayBins
	wayBounds
	allWays = 1<<iota - 1
)

// allColours has the bits of red, green and blue.
const allColours = 7

type depthRule struct {
	test    uint8
	written bool
}

type stencilRule struct {
	test, value, which, writes    uint8
	ifFails, ifDepthFails, ifBoth uint8 // what is done with the stencil
}

// rules is what commands lay down for the triangles behind them.
type rules struct {
	depth   depthRule
	stencil stencilRule
	faces   uint8
	written uint8 // colours, as bits
	shader  shader
	ways    int
}

func firstRules(ways int) rules {
	return rules{
		depth:   depthRule{test: testAlways, written: true},
		stencil: stencilRule{test: testAlways, which: 255, writes: 255},
		written: allColours,
		ways:    ways & allWays,
	}
}

func (r *rules) setDepth(args string) Errno {
	if args[0] > testAlways || args[1] > 1 {
		return ErrArg
	}
	r.depth = depthRule{test: args[0], written: args[1] == 1}
	return OK
}

func (r *rules) setStencil(args string) Errno {
	if args[0] > testAlways || max(args[4], args[5], args[6]) > stencilDownAround {
		return ErrArg
	}
	r.stencil = stencilRule{args[0], args[1], args[2], args[3], args[4], args[5], args[6]}
	return OK
}

func (r *rules) setFaces(args string) Errno {
	if args[0] > backFaces {
		return ErrArg
	}
	r.faces = args[0]
	return OK
}

func (r *rules) setColours(args string) Errno {
	if args[0] > allColours {
		return ErrArg
	}
	r.written = args[0]
	return OK
}

func (r *rules) setShader(args string) Errno {
	s, ok := readShader(args)
	if !ok {
		return ErrArg
	}
	r.shader = s
	return OK
}

func (r *rules) setWays(args string) Errno {
	r.ways = int(args[0])
	return OK
}

// uses tells whether a way is switched on.
func (r *rules) uses(way int) bool {
	return r.ways&way != 0
}

// draws tells whether triangles of a face are drawn.
func (r *rules) draws(front bool) bool {
	switch r.faces {
	case frontFaces:
		return front
	case backFaces:
		return !front
	}
	return true
}

// showsFailing tells whether anything may change where one of the tests fails.
func (r *rules) showsFailing() bool {
	s := &r.stencil
	if s.test != testAlways && s.changes(s.ifFails) {
		return true
	}
	return s.test != testNever && r.depth.test != testAlways && s.changes(s.ifDepthFails)
}

// showsPassing tells whether anything may change, or be counted, where both pass.
func (r *rules) showsPassing(counting bool) bool {
	if r.stencil.test == testNever || r.depth.test == testNever {
		return false
	}
	return counting || r.depth.written || r.written != 0 || r.stencil.changes(r.stencil.ifBoth)
}

// passes holds what comes against what is there.
func passes[T cmp.Ordered](test uint8, comes, there T) bool {
	switch test {
	case testLess:
		return comes < there
	case testEqual:
		return comes == there
	case testLessOrEqual:
		return comes <= there
	case testGreater:
		return comes > there
	case testNotEqual:
		return comes != there
	case testGreaterOrEqual:
		return comes >= there
	}
	return test == testAlways
}

func (s *stencilRule) passes(stencil uint8) bool {
	return passes(s.test, s.value&s.which, stencil&s.which)
}

// changes tells whether any stencil may become another.
func (s *stencilRule) changes(done uint8) bool {
	return done != stencilStays && s.writes != 0
}

// changed is what becomes of a stencil, as far as its bits are written.
func (s *stencilRule) changed(stencil, done uint8) uint8 {
	return stencil&^s.writes | s.made(stencil, done)&s.writes
}

// made is what a stencil would become, if all of its bits were written.
func (s *stencilRule) made(stencil, done uint8) uint8 {
	switch done {
	case stencilZero:
		return 0
	case stencilValue:
		return s.value
	case stencilTurned:
		return ^stencil
	case stencilUp:
		if stencil == math.MaxUint8 {
			return stencil
		}
		fallthrough
	case stencilUpAround:
		return stencil + 1
	case stencilDown:
		if stencil == 0 {
			return 0
		}
		fallthrough
	case stencilDownAround:
		return stencil - 1
	}
	return stencil
}
