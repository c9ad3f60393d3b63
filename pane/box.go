package pane

// box is a rectangle of pixels; it may be empty.
type box struct {
	x, y, columns, rows int
}

func (b box) isEmpty() bool {
	return b.columns == 0 || b.rows == 0
}

// meet is what two boxes have in common.
func (b box) meet(o box) box {
	x, y := max(b.x, o.x), max(b.y, o.y)
	right, bottom := min(b.x+b.columns, o.x+o.columns), min(b.y+b.rows, o.y+o.rows)
	return box{x, y, max(0, right-x), max(0, bottom-y)}
}

// eachTile goes through the whole tiles that have pixels of a box in the pane. (The
// pane's tiles begin at its first pixel, not at the box's.)
func (b box) eachTile(yield func(box) bool) {
	if b.isEmpty() {
		return
	}
	for y := b.y - b.y%tileSide; y < b.y+b.rows; y += tileSide {
		for x := b.x - b.x%tileSide; x < b.x+b.columns; x += tileSide {
			if !yield(box{x, y, tileSide, tileSide}) {
				return
			}
		}
	}
}

func (b box) eachPixel(yield func(x, y int) bool) {
	for y := b.y; y < b.y+b.rows; y++ {
		for x := b.x; x < b.x+b.columns; x++ {
			if !yield(x, y) {
				return
			}
		}
	}
}
