package pane

// eachTile goes through the tiles that have pixels of the box, by the place of
// their first pixel. (The pane's tiles begin at its first pixel, not at the box's.)
func (b box) eachTile(yield func(x, y int) bool) {
	if b.columns == 0 || b.rows == 0 {
		return
	}
	for y := b.y - b.y%tileSide; y < b.y+b.rows; y += tileSide {
		for x := b.x - b.x%tileSide; x < b.x+b.columns; x += tileSide {
			if !yield(x, y) {
				return
			}
		}
	}
}

func (d *drawer) drawTriangle(args string) Errno {
	t := readTriangle(args)
	if t.area != 0 && d.draws(t.front) {
		d.drawTiles(&t)
	}
	return OK
}

func (d *drawer) drawTiles(t *triangle) {
	w := d.window
tiles:
	for left, top := range w.eachTile {
		for y := max(top, w.y); y < top+tileSide; y++ {
			if y >= w.y+w.rows {
				continue tiles
			}
			for x := max(left, w.x); x < min(left+tileSide, w.x+w.columns); x++ {
				d.drawPixel(t, x, y)
			}
		}
	}
}

func (d *drawer) drawPixel(t *triangle, x, y int) {
	s, covered := t.sampleAt(x, y)
	if !covered {
		return
	}
	made, goesOn := s.shade(d.shader)
	d.steps += made
	if goesOn {
		d.testAndWrite(s)
	}
}

func (d *drawer) testAndWrite(s sample) {
	old := d.stencils.at(s.x, s.y)
	done := d.stencil.ifBoth
	if !d.stencil.passes(old) {
		done = d.stencil.ifFails
	} else if !passes(d.depth.test, s.depth, d.depths.at(s.x, s.y)) {
		done = d.stencil.ifDepthFails
	} else {
		d.write(s)
	}
	d.stencils.set(s.x, s.y, d.stencil.changed(old, done))
}

func (d *drawer) write(s sample) {
	if d.depth.written {
		d.depths.set(s.x, s.y, s.depth)
	}
	c := d.colours.at(s.x, s.y)
	for i := range c {
		if d.written&(1<<i) != 0 {
			c[i] = s.colour[i]
		}
	}
	d.colours.set(s.x, s.y, c)
	d.countOne()
}
