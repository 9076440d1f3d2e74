package region

import (
	"iter"

	"vignette/api"
)

// runs goes through a list in pieces, those of one place that stand one behind the other: the place, and the piece.
func runs[T any](l []T, place func(T) int) iter.Seq2[int, []T] {
	return func(yield func(int, []T) bool) {
		first := 0
		for i := range l {
			at := place(l[first])
			if i+1 < len(l) && place(l[i+1]) == at {
				continue
			}
			if !yield(at, l[first:i+1]) {
				return
			}
			first = i + 1
		}
	}
}

// isBand tells whether rectangles of one Y are of one H, too, and stand apart, from the left on.
func isBand(row []api.Rect) bool {
	for i := 1; i < len(row); i++ {
		if row[i].H != row[0].H || row[i].X <= row[i-1].X+row[i-1].W {
			return false
		}
	}
	return true
}

// follows tells whether a band may stand behind the one above it: it does not overlap it, and does not just go on with it.
func follows(above, band []api.Rect) bool {
	if len(above) == 0 {
		return true
	}
	end := above[0].Y + above[0].H
	return band[0].Y >= end && !goesOn(above, band)
}

// goesOn tells whether a band begins where the one above it ends, and is the same across: the two are one then.
func goesOn(above, band []api.Rect) bool {
	if len(above) == 0 || len(above) != len(band) || above[0].Y+above[0].H != band[0].Y {
		return false
	}
	for i, r := range band {
		if r.X != above[i].X || r.W != above[i].W {
			return false
		}
	}
	return true
}
