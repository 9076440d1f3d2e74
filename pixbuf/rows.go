package pixbuf

import (
	"iter"

	"vignette/api"
	"vignette/rect"
)

// colour are the bits of a number that a pixel has.
const colour = 1<<24 - 1

// sized tells whether a picture may be of that size.
func sized(w, h int) bool {
	return w >= 1 && w <= api.MaxSide && h >= 1 && h <= api.MaxSide
}

// isPicture tells whether an api.Image is one: the size is asked first, as the product of any two numbers might wrap.
func isPicture(m api.Image) bool {
	return sized(m.W, m.H) && len(m.Pix) == m.W*m.H
}

// blank is a picture whose pixels are 0.
func blank(w, h int) api.Image {
	return api.Image{W: w, H: h, Pix: make([]uint32, w*h)}
}

// whole is the rectangle of all of a picture's pixels.
func whole(m api.Image) api.Rect {
	return api.Rect{W: m.W, H: m.H}
}

// allIn tells whether a rectangle has pixels, and a picture has them all.
func allIn(r api.Rect, m api.Image) bool {
	return !rect.Empty(r) && rect.In(r, whole(m))
}

// row are the pixels of one row of a rectangle that is all in the picture. Its room ends with it, so that nothing can
// be laid past the rectangle's edge.
func row(m api.Image, r api.Rect, down int) []uint32 {
	from := (r.Y+down)*m.W + r.X
	end := from + r.W
	return m.Pix[from:end:end]
}

// rows goes through the rows of a rectangle that is all in the picture, from the top: how far down, and the pixels.
func rows(m api.Image, r api.Rect) iter.Seq2[int, []uint32] {
	return func(yield func(int, []uint32) bool) {
		for down := range r.H {
			if !yield(down, row(m, r, down)) {
				return
			}
		}
	}
}

// turn makes each pixel of a row what told says of it.
func turn(pixels []uint32, told func(old uint32) uint32) {
	for x, old := range pixels {
		pixels[x] = told(old)
	}
}

// lay makes the pixels of a part of a picture those of a part of another one, of the same size.
func lay(to api.Image, at api.Rect, from api.Image, part api.Rect) {
	for down, pixels := range rows(to, at) {
		copy(pixels, row(from, part, down))
		// A picture that is handed in may have numbers that are no colours.
		turn(pixels, func(c uint32) uint32 { return c & colour })
	}
}

// cutOut is the picture of a part, in memory of its own.
func cutOut(m api.Image, part api.Rect) api.Image {
	piece := blank(part.W, part.H)
	lay(piece, whole(piece), m, part)
	return piece
}

// streaks are the rectangles, 1 high, of the places in a row at which something is asked for and holds.
func streaks(y, width int, holds func(x int) bool) []api.Rect {
	var l []api.Rect
	from := 0
	for x := range width + 1 {
		if x < width && holds(x) {
			continue
		}
		if from < x {
			l = append(l, api.Rect{X: from, Y: y, W: x - from, H: 1})
		}
		from = x + 1
	}
	return l
}
