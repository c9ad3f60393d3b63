package pane

import "math"

func (d *drawer) drawTriangle(args string) Errno {
	t := readTriangle(args)
	if t.area == 0 || !d.draws(t.front) || d.uses(wayUnseen) && d.cannotBeSeen(&t) {
		return OK
	}
	looked := d.lookedAt(&t)
tiles:
	for tile := range looked.eachTile {
		if d.uses(wayEdges) {
			part := looked.meet(tile)
			for i := range t.corners {
				if t.side(i).leavesOut(part) {
					continue tiles
				}
			}
		}
		if d.uses(wayBins) {
			d.bins.put(&t, tile)
		} else {
			d.drawTile(&t, tile)
		}
	}
	return OK
}

// cannotBeSeen tells that nothing that is read or counted hangs on a triangle.
func (d *drawer) cannotBeSeen(t *triangle) bool {
	if d.window.meet(t.bounds).isEmpty() {
		return true
	}
	return !d.showsFailing() && !d.showsPassing(d.counting())
}

// lookedAt is the pixels among which those that a triangle covers are looked for.
func (d *drawer) lookedAt(t *triangle) box {
	if d.uses(wayBounds) {
		return d.window.meet(t.bounds)
	}
	return d.window
}

// drawTile draws what a triangle has in a tile.
func (d *drawer) drawTile(t *triangle, tile box) {
	part := d.lookedAt(t).meet(tile)
	if d.uses(wayDepthRange) && d.depthsDecide(t, part) {
		return
	}
	for x, y := range part.eachPixel {
		d.drawPixel(t, x, y)
	}
	if d.uses(wayOneDepth) {
		d.depths.join(d.whole().meet(tile))
	}
}

// depthsDecide tells that the depth test fails in all of a tile's part, by the
// depths' ends alone, and that nothing is to be done where it does.
func (d *drawer) depthsDecide(t *triangle, part box) bool {
	if d.showsFailing() {
		return false
	}
	comes := t.depths()
	if d.shader.bringsDepth {
		comes = span[uint16]{0, math.MaxUint16}
	}
	return !mayPass(d.depth.test, comes, spanIn(&d.depths, part))
}

func (d *drawer) drawPixel(t *triangle, x, y int) {
	s, covered := t.sampleAt(x, y)
	if !covered {
		return
	}
	early := d.uses(wayEarlyTests) && d.shader.canWait()
	if !early && !d.shadeSample(&s) || !d.test(s) {
		return
	}
	if early {
		d.shadeSample(&s)
	}
	d.write(s)
}

// shadeSample answers false, if the shader gives up.
func (d *drawer) shadeSample(s *sample) bool {
	made, goesOn := s.shade(d.shader.steps)
	d.steps += made
	return goesOn
}

// test answers whether both tests pass, and does with the stencil what is done then.
func (d *drawer) test(s sample) bool {
	old := d.stencils.at(s.x, s.y)
	done, both := d.stencil.ifBoth, true
	if !d.stencil.passes(old) {
		done, both = d.stencil.ifFails, false
	} else if !passes(d.depth.test, s.depth, d.depths.at(s.x, s.y)) {
		done, both = d.stencil.ifDepthFails, false
	}
	d.stencils.set(s.x, s.y, d.stencil.changed(old, done))
	return both
}

func (d *drawer) write(s sample) {
	if d.depth.written {
		d.depths.set(s.x, s.y, s.depth)
	}
	c := d.colours.at(s.x, s.y)
	for i := range c {
		if d.written&(1<<i) != 0 {
			c[i] = s.colour[i]
		}
	}
	d.colours.set(s.x, s.y, c)
	d.countOne()
}
