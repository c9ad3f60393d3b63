package pane

const maxQueries = 4

type query struct {
	known bool // it was begun at some time
	begun bool
	count int
}

type queries [maxQueries]query

func (q *queries) begin(args string) Errno {
	n := args[0]
	if n >= maxQueries {
		return ErrArg
	}
	if q[n].begun {
		return ErrBegun
	}
	q[n] = query{known: true, begun: true}
	return OK
}

func (q *queries) end(args string) Errno {
	n := args[0]
	if n >= maxQueries {
		return ErrArg
	}
	if !q[n].begun {
		return ErrNone
	}
	q[n].begun = false
	return OK
}

// counting tells whether any is begun.
func (q *queries) counting() bool {
	for n := range q {
		if q[n].begun {
			return true
		}
	}
	return false
}

// countOne counts a pixel for each query that is begun.
func (q *queries) countOne() {
	for n := range q {
		if q[n].begun {
			q[n].count++
		}
	}
}

// counted is how many a query that has ended counted.
func (q *queries) counted(n int) (int, Errno) {
	switch {
	case n >= maxQueries:
		return 0, ErrArg
	case q[n].begun:
		return 0, ErrBegun
	case !q[n].known:
		return 0, ErrNone
	}
	return q[n].count, OK
}
