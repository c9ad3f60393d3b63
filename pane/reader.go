package pane

// The kinds of commands.
const (
	noCommand = iota
	sizeCommand
	clearCommand
	depthCommand
	stencilCommand
	windowCommand
	facesCommand
	coloursCommand
	shaderCommand
	triangleCommand
	beginCommand
	endCommand
	waysCommand
	pixelCommand
	countCommand
	commandKinds // how many numbers there are up to here
)

// bytesBehind is how many bytes stand behind each kind. A shader's steps come on top.
var bytesBehind = [commandKinds]int{
	sizeCommand:     2,
	clearCommand:    7,
	depthCommand:    2,
	stencilCommand:  7,
	windowCommand:   4,
	facesCommand:    1,
	coloursCommand:  1,
	shaderCommand:   1,
	triangleCommand: 27,
	beginCommand:    1,
	endCommand:      1,
	waysCommand:     1,
	pixelCommand:    3,
	countCommand:    1,
}

// reader cuts a stream into commands.
type reader struct {
	stream string
	place  int
}

func (r *reader) atEnd() bool {
	return r.place == len(r.stream)
}

// next takes the command at the reader's place, which is not the end. It takes
// nothing, and answers false, if there is no whole command of a known kind.
func (r *reader) next() (kind int, args string, ok bool) {
	kind = int(r.stream[r.place])
	if kind == noCommand || kind >= commandKinds {
		return noCommand, "", false
	}
	rest := r.stream[r.place+1:]
	n := bytesBehind[kind]
	if kind == shaderCommand && len(rest) > 0 {
		n += int(rest[0]) * stepBytes
	}
	if n > len(rest) {
		return noCommand, "", false
	}
	r.place += 1 + n
	return kind, rest[:n], true
}

// twoBytes is the number, without a sign, that text begins with.
func twoBytes(text string) int {
	return int(text[0])<<8 | int(text[1])
}

// signedBytes is the number, with a sign, that text begins with.
func signedBytes(text string) int {
	return int(int16(twoBytes(text)))
}
