package pane

// bins are where triangles wait, each in the bin of every tile that it has to be
// looked at in. No bin is found by going through the map, whose order is none.
type bins map[box][]*triangle

func (b bins) put(t *triangle, tile box) {
	b[tile] = append(b[tile], t)
}

// drawWaiting draws the triangles that wait, tile by tile, those of a tile in the
// order in which they came. It must be done ahead of whatever is not a triangle:
// they are drawn by the rules and in the window that they came in.
func (d *drawer) drawWaiting() {
	if len(d.bins) == 0 {
		return
	}
	for tile := range d.window.eachTile {
		for _, t := range d.bins[tile] {
			d.drawTile(t, tile)
		}
	}
	clear(d.bins)
}
