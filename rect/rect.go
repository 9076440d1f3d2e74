// Package rect is layer 1: rectangles of pixels.
package rect

import "vignette/api"

// way is one of the two ways in which a rectangle reaches.
type way int

const (
	across way = iota
	down
)

// pick is the one of two numbers that belongs to a way.
func pick(w way, x, y int) int {
	if w == across {
		return x
	}
	return y
}

// reach tells where a rectangle begins, one way, and how far it goes on.
func reach(r api.Rect, w way) (from, size int) {
	return pick(w, r.X, r.Y), pick(w, r.W, r.H)
}

// ends tells where a good rectangle begins, one way, and where it ends: of another one the sum might wrap.
func ends(r api.Rect, w way) (from, end int) {
	start, size := reach(r, w)
	return start, start + size
}

// both tells whether what is asked holds across and down.
func both(asked func(w way) bool) bool {
	return asked(across) && asked(down)
}

// between is the rectangle of which told says, each way, where it begins and ends.
func between(told func(w way) (from, end int)) api.Rect {
	left, right := told(across)
	top, bottom := told(down)
	return api.Rect{X: left, Y: top, W: right - left, H: bottom - top}
}

// Good tells whether a rectangle lies within the bounds, and has a size.
func Good(r api.Rect) bool {
	return both(func(w way) bool {
		from, size := reach(r, w)
		// The end is not summed up: of numbers of any size the sum might wrap.
		return from >= -api.MaxCoord && size >= 0 && size <= api.MaxCoord-from
	})
}

// Empty tells whether it has no pixels: one that is not good has none.
func Empty(r api.Rect) bool {
	return !Good(r) || !both(func(w way) bool {
		_, size := reach(r, w)
		return size > 0
	})
}

// Has tells whether it has the pixel x, y.
func Has(r api.Rect, x, y int) bool {
	return Good(r) && both(func(w way) bool {
		from, end := ends(r, w)
		at := pick(w, x, y)
		return from <= at && at < end
	})
}

// And is the rectangle of the pixels that both have; the zero one, if there are none.
func And(a, b api.Rect) api.Rect {
	if Empty(a) || Empty(b) {
		return api.Rect{}
	}
	common := between(func(w way) (int, int) {
		fromA, endA := ends(a, w)
		fromB, endB := ends(b, w)
		return max(fromA, fromB), min(endA, endB)
	})
	// Where the two lie apart, its size is below 0.
	if Empty(common) {
		return api.Rect{}
	}
	return common
}

// Or is the least rectangle that has all pixels of both; if one is empty, the other one.
func Or(a, b api.Rect) api.Rect {
	switch {
	case Empty(a) && Empty(b):
		return api.Rect{}
	case Empty(a):
		return b
	case Empty(b):
		return a
	}
	return between(func(w way) (int, int) {
		fromA, endA := ends(a, w)
		fromB, endB := ends(b, w)
		return min(fromA, fromB), max(endA, endB)
	})
}

// In tells whether b has all pixels of a: of none it has all.
func In(a, b api.Rect) bool {
	return Empty(a) || And(a, b) == a
}

// Shift is the rectangle dx further to the right and dy further down; the zero one, if either is not good.
func Shift(r api.Rect, dx, dy int) api.Rect {
	if !Good(r) {
		return api.Rect{}
	}
	fits := both(func(w way) bool {
		from, end := ends(r, w)
		by := pick(w, dx, dy)
		// The room is asked, not the sum, which might wrap.
		return by >= -api.MaxCoord-from && by <= api.MaxCoord-end
	})
	if !fits {
		return api.Rect{}
	}
	return api.Rect{X: r.X + dx, Y: r.Y + dy, W: r.W, H: r.H}
}

// Area is how many pixels it has.
func Area(r api.Rect) int {
	if Empty(r) {
		return 0
	}
	return r.W * r.H
}
