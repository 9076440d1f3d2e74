package scene

import (
	"slices"

	"vignette/api"
)

// mayBe says whether the fields of a node that is added may be; its parent is asked for by itself.
func mayBe(n api.Node) bool {
	return areFrom(1, api.MaxCoord, n.Id) &&
		areFrom(int(api.Group), int(api.Bitmap), int(n.Kind)) &&
		arePlaces(n.X, n.Y, n.Z) &&
		areSides(n.W, n.H) &&
		len(n.Pix) == pixels(n) &&
		(n.Kind == api.Solid || low(n.Color) == 0)
}

func arePlaces(l ...int) bool { return areFrom(-api.MaxCoord, api.MaxCoord, l...) }

func areSides(l ...int) bool { return areFrom(1, api.MaxSide, l...) }

// areFrom says whether all of some numbers are from one to another one.
func areFrom(least, most int, l ...int) bool {
	return !slices.ContainsFunc(l, func(n int) bool { return n < least || n > most })
}

// pixels is how many numbers a node's list of pixels has.
func pixels(n api.Node) int {
	if n.Kind != api.Bitmap {
		return 0
	}
	return n.W * n.H
}

// low is what counts of a colour's number.
func low(color uint32) uint32 { return color & 0xffffff }

// lowOf is a new list of what counts of these numbers.
func lowOf(pix []uint32) []uint32 {
	l := make([]uint32, len(pix))
	for i, p := range pix {
		l[i] = low(p)
	}
	return l
}
