package region

import (
	"cmp"
	"iter"
	"slices"

	"vignette/api"
	"vignette/rect"
)

// edge is where a rectangle of one of two lists begins or ends, across or down.
type edge struct {
	at   int
	list int // 0 is the first one, 1 the second one
	turn int // 1 where it begins, -1 where it ends
	of   api.Rect
}

// form is the list in form of the pixels that are meant.
func form(a, b []api.Rect, meant func(inA, inB bool) bool) []api.Rect {
	var l []api.Rect
	for band := range bands(a, b, meant) {
		l = append(l, band...)
	}
	return l
}

// bands goes through the bands in form of the pixels that are meant, from the top. It has one of them at a time, as a
// list of n rectangles may have a form of n times n. Of pixels that neither list has, meant must not tell true.
func bands(a, b []api.Rect, meant func(inA, inB bool) bool) iter.Seq[[]api.Rect] {
	return func(yield func([]api.Rect) bool) {
		var above []api.Rect
		for strip := range strips(a, b, meant) {
			if goesOn(above, strip) {
				lengthen(above, strip[0].H)
				continue
			}
			if len(above) > 0 && !yield(above) {
				return
			}
			above = strip
		}
		if len(above) > 0 {
			yield(above)
		}
	}
}

// lengthen makes a band's rectangles so much higher.
func lengthen(band []api.Rect, by int) {
	for i := range band {
		band[i].H += by
	}
}

// strips goes through the pixels that are meant, from each edge down to the next one: on the way between, nothing changes.
func strips(a, b []api.Rect, meant func(inA, inB bool) bool) iter.Seq[[]api.Rect] {
	return func(yield func([]api.Rect) bool) {
		var sides []edge // of the rectangles that the strip is cut out of, from the left
		top := 0
		for y, turns := range edges(downs(a, b)) {
			if strip := cut(sides, top, y, meant); len(strip) > 0 && !yield(strip) {
				return
			}
			sides = merged(without(sides, y), acrosses(turns))
			top = y
		}
	}
}

// edges goes through edges that are sorted, place by place: the place, and all that are there.
func edges(l []edge) iter.Seq2[int, []edge] {
	return runs(l, func(e edge) int { return e.at })
}

// downs are the upper and lower edges of all rectangles of both that have pixels, sorted.
func downs(a, b []api.Rect) []edge {
	var l []edge
	for list, rects := range [2][]api.Rect{a, b} {
		for _, r := range rects {
			if !rect.Empty(r) {
				l = append(l, edge{r.Y, list, 1, r}, edge{r.Y + r.H, list, -1, r})
			}
		}
	}
	sortEdges(l)
	return l
}

// acrosses are the left and right edges of the rectangles that begin among the turns, sorted.
func acrosses(turns []edge) []edge {
	var l []edge
	for _, e := range turns {
		if e.turn == 1 {
			l = append(l, edge{e.of.X, e.list, 1, e.of}, edge{e.of.X + e.of.W, e.list, -1, e.of})
		}
	}
	sortEdges(l)
	return l
}

func sortEdges(l []edge) {
	slices.SortFunc(l, func(a, b edge) int { return cmp.Compare(a.at, b.at) })
}

// without leaves out the edges of rectangles that end at y.
func without(sides []edge, y int) []edge {
	return slices.DeleteFunc(sides, func(e edge) bool { return e.of.Y+e.of.H == y })
}

// merged are the edges of two sorted lists, sorted: sorting all anew at each strip would take longer.
func merged(a, b []edge) []edge {
	if len(b) == 0 {
		return a
	}
	l := make([]edge, 0, len(a)+len(b))
	for len(a) > 0 && len(b) > 0 {
		if a[0].at <= b[0].at {
			l, a = append(l, a[0]), a[1:]
		} else {
			l, b = append(l, b[0]), b[1:]
		}
	}
	return append(append(l, a...), b...)
}

// cut are the rectangles of the pixels that are meant, from top to bottom, between the sides; they do not touch, as all
// that turns at one place is taken together.
func cut(sides []edge, top, bottom int, meant func(inA, inB bool) bool) []api.Rect {
	var l []api.Rect
	var depth [2]int // how many rectangles of each list lie there
	from, open := 0, false
	for x, turns := range edges(sides) {
		for _, e := range turns {
			depth[e.list] += e.turn
		}
		has := meant(depth[0] > 0, depth[1] > 0)
		if has && !open {
			from = x
		}
		if !has && open {
			l = append(l, api.Rect{X: from, Y: top, W: x - from, H: bottom - top})
		}
		open = has
	}
	return l
}
