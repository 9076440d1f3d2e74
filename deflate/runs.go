package deflate

import "iter"

// Symbols of the lengths' code that are no lengths, but tell several ones.
const (
	again     = 16 // the one ahead
	zeros     = 17
	manyZeros = 18
)

// runs are what a row of lengths becomes.
func runs(lens []uint8) iter.Seq[part] {
	return func(yield func(part) bool) {
		for at := 0; at < len(lens); {
			p, n := run(lens, at)
			if !yield(p) {
				return
			}
			at += n
		}
	}
}

// run tells as many lengths from a place on as one symbol may, and how many these are.
func run(lens []uint8, at int) (part, int) {
	n := like(lens[at:])
	switch {
	case lens[at] == 0 && n >= 11:
		n = min(n, 138)
		return part{symbol: manyZeros, more: n - 11, size: 7}, n
	case lens[at] == 0 && n >= 3:
		return part{symbol: zeros, more: n - 3, size: 3}, n
	case n >= 3 && at > 0 && lens[at] == lens[at-1]:
		n = min(n, 6)
		return part{symbol: again, more: n - 3, size: 2}, n
	}
	return part{symbol: int(lens[at])}, 1
}

// like is how many of some lengths are as the first one, up to one that is not.
func like(lens []uint8) int {
	n := 1
	for n < len(lens) && lens[n] == lens[0] {
		n++
	}
	return n
}
