package pane

const (
	maxSide   = 24
	firstSide = 8
	farthest  = 65535 // the depth of a pixel at first
)

// colour is red, green and blue.
type colour [3]uint8

// canvas is the pane with its pixels, and the window on it.
type canvas struct {
	columns, rows int
	window        box
	colours       surface[colour]
	depths        surface[uint16]
	stencils      surface[uint8]
}

func newCanvas(columns, rows int) canvas {
	return canvas{
		columns:  columns,
		rows:     rows,
		window:   box{0, 0, columns, rows},
		colours:  newSurface(columns, rows, colour{}),
		depths:   newSurface(columns, rows, uint16(farthest)),
		stencils: newSurface(columns, rows, uint8(0)),
	}
}

func (c *canvas) whole() box {
	return box{0, 0, c.columns, c.rows}
}

func (c *canvas) has(x, y int) bool {
	return x < c.columns && y < c.rows
}

func (c *canvas) setSize(args string) Errno {
	columns, rows := int(args[0]), int(args[1])
	if min(columns, rows) < 1 || max(columns, rows) > maxSide {
		return ErrArg
	}
	*c = newCanvas(columns, rows)
	return OK
}

func (c *canvas) setWindow(args string) Errno {
	a := box{int(args[0]), int(args[1]), int(args[2]), int(args[3])}
	if a.x+a.columns > c.columns || a.y+a.rows > c.rows {
		return ErrArg
	}
	c.window = a
	return OK
}
