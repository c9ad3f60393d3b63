package pane

import "cmp"

// span is all numbers from the least to the most.
type span[T cmp.Ordered] struct {
	least, most T
}

func spanOf[T cmp.Ordered](n T) span[T] {
	return span[T]{n, n}
}

// with is the span that has a number beside those that it had.
func (s span[T]) with(n T) span[T] {
	return span[T]{min(s.least, n), max(s.most, n)}
}

// spanIn is the span of what a surface has in a box, which lies in one of its tiles.
func spanIn[T cmp.Ordered](s *surface[T], b box) span[T] {
	t, first := s.find(b.x, b.y)
	if t.marked {
		return spanOf(t.all)
	}
	all := spanOf(t.pixels[first])
	for x, y := range b.eachPixel {
		all = all.with(s.at(x, y))
	}
	return all
}

// mayPass tells whether any number that comes passes against any that is there.
func mayPass[T cmp.Ordered](test uint8, comes, there span[T]) bool {
	switch test {
	case testLess, testLessOrEqual:
		return passes(test, comes.least, there.most)
	case testGreater, testGreaterOrEqual:
		return passes(test, comes.most, there.least)
	case testEqual:
		return comes.least <= there.most && comes.most >= there.least
	case testNotEqual:
		return comes.least != there.most || comes.most != there.least
	}
	return test == testAlways
}
