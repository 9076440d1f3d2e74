package update

import "vignette/api"

const colour = 1<<24 - 1

// isPart says whether a rectangle is a part of a picture.
func isPart(r api.Rect, m api.Image) bool {
	return min(r.X, r.Y) >= 0 && min(r.W, r.H) >= 1 && r.X <= m.W-r.W && r.Y <= m.H-r.H
}

// isCopy says whether a copy is one of a picture. No two parts of one are farther away from each other than a copy may reach.
func isCopy(c api.Copy, m api.Image) bool {
	return isPart(c.To, m) && isPart(source(c), m)
}

// source is where a copy comes from.
func source(c api.Copy) api.Rect {
	from := c.To
	from.X -= c.DX
	from.Y -= c.DY
	return from
}

// clone is a picture of its own, of the low bits of another one.
func clone(m api.Image) api.Image {
	pix := make([]uint32, len(m.Pix))
	for i, p := range m.Pix {
		pix[i] = p & colour
	}
	return api.Image{W: m.W, H: m.H, Pix: pix}
}

// row is a part's row, as it stands in a picture.
func row(m api.Image, part api.Rect, i int) []uint32 {
	return m.Pix[(part.Y+i)*m.W+part.X:][:part.W]
}

// cut is the picture of a part.
func cut(m api.Image, part api.Rect) api.Image {
	pix := make([]uint32, 0, part.W*part.H)
	for i := range part.H {
		pix = append(pix, row(m, part, i)...)
	}
	return api.Image{W: part.W, H: part.H, Pix: pix}
}

// lay makes a part of a picture what another picture shows.
func lay(m api.Image, part api.Rect, shows api.Image) {
	all := api.Rect{W: part.W, H: part.H}
	for i := range part.H {
		copy(row(m, part, i), row(shows, all, i))
	}
}

// move does a copy within a picture.
func move(m api.Image, c api.Copy) {
	from := source(c)
	for i := range c.To.H {
		// Where rows come from above, the lowest goes first, so that each is taken ahead of what becomes of it.
		at := i
		if c.DY > 0 {
			at = c.To.H - 1 - i
		}
		copy(row(m, c.To, at), row(m, from, at))
	}
}
