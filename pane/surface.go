package pane

// tileSide is how many pixels a tile has across and down.
const tileSide = 4

// tile is a square of pixels. While it is marked, each of them is all, and what
// stands in pixels is of no account.
type tile[T comparable] struct {
	marked bool
	all    T
	pixels [tileSide * tileSide]T
}

func (t *tile[T]) mark(value T) {
	t.marked = true
	t.all = value
}

func (t *tile[T]) fill(value T) {
	t.marked = false
	for i := range t.pixels {
		t.pixels[i] = value
	}
}

// surface is one thing that every pixel of a pane has, kept tile by tile. Tiles at
// the right and at the bottom may reach over the pane's border.
type surface[T comparable] struct {
	across int
	tiles  []tile[T]
}

func newSurface[T comparable](columns, rows int, first T) surface[T] {
	across, down := tilesFor(columns), tilesFor(rows)
	s := surface[T]{across: across, tiles: make([]tile[T], across*down)}
	for t := range s.eachTile {
		t.mark(first)
	}
	return s
}

// tilesFor is how many tiles it takes to hold so many pixels in a line.
func tilesFor(pixels int) int {
	return (pixels + tileSide - 1) / tileSide
}

func (s *surface[T]) eachTile(yield func(*tile[T]) bool) {
	for i := range s.tiles {
		if !yield(&s.tiles[i]) {
			return
		}
	}
}

// find is the tile that has a pixel, and which of the tile's pixels it is.
func (s *surface[T]) find(x, y int) (*tile[T], int) {
	return &s.tiles[y/tileSide*s.across+x/tileSide], y%tileSide*tileSide + x%tileSide
}

func (s *surface[T]) at(x, y int) T {
	t, i := s.find(x, y)
	if t.marked {
		return t.all
	}
	return t.pixels[i]
}

func (s *surface[T]) set(x, y int, value T) {
	t, i := s.find(x, y)
	if t.marked {
		if t.all == value {
			return // so that the mark stays
		}
		t.fill(t.all)
	}
	t.pixels[i] = value
}

// join lets a tile keep one number, if these pixels of it are all the same. They are
// all that the pane has of the tile: what lies beyond is of no account.
func (s *surface[T]) join(b box) {
	t, first := s.find(b.x, b.y)
	if t.marked {
		return
	}
	for x, y := range b.eachPixel {
		if s.at(x, y) != t.pixels[first] {
			return
		}
	}
	t.mark(t.pixels[first])
}

// clear brings every pixel to value, by marks alone or by writing each.
func (s *surface[T]) clear(value T, byMarks bool) {
	for t := range s.eachTile {
		if t.marked && t.all == value {
			continue // it holds nothing else already
		}
		if byMarks {
			t.mark(value)
		} else {
			t.fill(value)
		}
	}
}
