// Package pane: triangles on a small pane, drawn quickly, as if drawn slowly: see DOC.md.
package pane

// Errno is what is wrong with a command.
type Errno int

const (
	OK       Errno = iota
	ErrText        // no command
	ErrArg         // numbers that may not be
	ErrBegun       // a query that is begun
	ErrNone        // a query that is not
)

// The kinds of replies.
const (
	Fault int = iota
	Pixel
	Depth
	Stencil
	Count
)

// Reply is what is replied to a command.
type Reply struct {
	Kind    int
	A, B, C int
}

// Draw works a stream of commands (P2 to P4).
func Draw(stream string, ways int) []Reply {
	d := newDrawer(stream, ways)
	d.work()
	return d.replies
}

// Steps tells how many steps of shaders were made (P5).
func Steps(stream string, ways int) int {
	d := newDrawer(stream, ways)
	d.work()
	return d.steps
}
