package tiles

import (
	"iter"

	"vignette/api"
	"vignette/rect"
	"vignette/region"
)

// whole is the rectangle of all pixels of a picture of that size; the zero one of a size that may not be.
func whole(w, h int) api.Rect {
	if w < 1 || w > api.MaxSide || h < 1 || h > api.MaxSide {
		return api.Rect{}
	}
	return api.Rect{W: w, H: h}
}

// all goes through the tiles of a size: the number, and the rectangle.
func all(w, h int) iter.Seq2[int, api.Rect] {
	picture := whole(w, h)
	return under(picture, picture)
}

// under goes through the tiles that have pixels of a part of a picture: the number, and the rectangle.
func under(part, picture api.Rect) iter.Seq2[int, api.Rect] {
	return func(yield func(int, api.Rect) bool) {
		columns := (picture.W + api.Tile - 1) / api.Tile
		for row := part.Y / api.Tile; row*api.Tile < part.Y+part.H; row++ {
			for column := part.X / api.Tile; column*api.Tile < part.X+part.W; column++ {
				full := api.Rect{X: column * api.Tile, Y: row * api.Tile, W: api.Tile, H: api.Tile}
				if !yield(row*columns+column, rect.And(full, picture)) {
					return
				}
			}
		}
	}
}

// pieces are, by the numbers of the tiles that a list has pixels of, the rectangles in which it has these.
func pieces(l []api.Rect, w, h int) map[int][]api.Rect {
	picture := whole(w, h)
	of := map[int][]api.Rect{}
	for _, part := range region.Of(within(l, picture)...) {
		for number, tile := range under(part, picture) {
			of[number] = append(of[number], rect.And(part, tile))
		}
	}
	return of
}

// within are the rectangles of a list that reach into the picture, cut at its edges: edges further out would only make
// the form, which goes from edge to edge, more work.
func within(l []api.Rect, picture api.Rect) []api.Rect {
	var inside []api.Rect
	for _, r := range l {
		if part := rect.And(r, picture); !rect.Empty(part) {
			inside = append(inside, part)
		}
	}
	return inside
}
