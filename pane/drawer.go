package pane

// drawer is what one call works with. What its parts do for a command is promoted,
// so that the table of commands finds all of it at the drawer.
type drawer struct {
	reader
	canvas
	rules
	queries
	bins
	replies []Reply
	steps   int // of shaders, made so far
}

func newDrawer(stream string, ways int) *drawer {
	return &drawer{
		reader: reader{stream: stream},
		canvas: newCanvas(firstSide, firstSide),
		rules:  firstRules(ways),
		bins:   bins{},
	}
}

// commands is what is done for each kind.
func commands() [commandKinds]func(*drawer, string) Errno {
	return [commandKinds]func(*drawer, string) Errno{
		sizeCommand:     (*drawer).setSize,
		clearCommand:    (*drawer).clearPane,
		depthCommand:    (*drawer).setDepth,
		stencilCommand:  (*drawer).setStencil,
		windowCommand:   (*drawer).setWindow,
		facesCommand:    (*drawer).setFaces,
		coloursCommand:  (*drawer).setColours,
		shaderCommand:   (*drawer).setShader,
		triangleCommand: (*drawer).drawTriangle,
		beginCommand:    (*drawer).begin,
		endCommand:      (*drawer).end,
		waysCommand:     (*drawer).setWays,
		pixelCommand:    (*drawer).tellPixel,
		countCommand:    (*drawer).tellCount,
	}
}

// A kind that was left out of a table would be found only by a stream that has it,
// as a panic inside Draw: so it is looked for ahead of every stream.
func init() {
	for kind, do := range commands() {
		if kind != noCommand && (do == nil || bytesBehind[kind] == 0) {
			panic("pane: a kind of command is missing in a table")
		}
	}
}

// work does the commands of the stream, one by one.
func (d *drawer) work() {
	table := commands()
	for !d.atEnd() && d.workNext(&table) {
	}
	d.drawWaiting()
}

// workNext does the command at the reader's place. It answers false, if there is none
// there, so that nothing behind it is worked.
func (d *drawer) workNext(table *[commandKinds]func(*drawer, string) Errno) bool {
	first := d.place
	kind, args, ok := d.next()
	if !ok {
		d.fault(ErrText, first)
		return false
	}
	if kind != triangleCommand {
		d.drawWaiting()
	}
	if e := table[kind](d, args); e != OK {
		d.fault(e, first)
	}
	return true
}

func (d *drawer) fault(e Errno, place int) {
	d.reply(Reply{Kind: Fault, A: int(e), B: place})
}

func (d *drawer) reply(r Reply) {
	d.replies = append(d.replies, r)
}

// What a clear goes over, as bits.
const (
	clearsColour = 1 << iota
	clearsDepth
	clearsStencil
	clearsAll = 1<<iota - 1
)

func (d *drawer) clearPane(args string) Errno {
	what := args[0]
	if what > clearsAll {
		return ErrArg
	}
	byMarks := d.uses(wayMarks)
	if what&clearsColour != 0 {
		d.colours.clear(colour{args[1], args[2], args[3]}, byMarks)
	}
	if what&clearsDepth != 0 {
		d.depths.clear(uint16(twoBytes(args[4:])), byMarks || d.uses(wayOneDepth))
	}
	if what&clearsStencil != 0 {
		d.stencils.clear(args[6], byMarks)
	}
	return OK
}

func (d *drawer) tellPixel(args string) Errno {
	x, y := int(args[1]), int(args[2])
	if !d.has(x, y) {
		return ErrArg
	}
	switch int(args[0]) {
	case Pixel:
		c := d.colours.at(x, y)
		d.reply(Reply{Pixel, int(c[0]), int(c[1]), int(c[2])})
	case Depth:
		d.reply(Reply{Kind: Depth, A: int(d.depths.at(x, y))})
	case Stencil:
		d.reply(Reply{Kind: Stencil, A: int(d.stencils.at(x, y))})
	default:
		return ErrArg
	}
	return OK
}

func (d *drawer) tellCount(args string) Errno {
	n := int(args[0])
	count, e := d.counted(n)
	if e != OK {
		return e
	}
	d.reply(Reply{Kind: Count, A: n, B: count})
	return OK
}
