package deflate

import (
	"iter"

	"vignette/api"
)

// The codes of a block: that of bytes and of how long repetitions are, and that of distances.
const (
	ofSymbols = iota
	ofDistances
)

// Symbols below end are bytes; those from firstRepeat to lastRepeat are how long a repetition is.
const (
	end         = 256
	firstRepeat = 257
	lastRepeat  = 285
)

const (
	shortest = 3
	longest  = 258
)

// part is a symbol of one of some codes, and the number behind it, of so many bits.
type part struct {
	code, symbol int
	more, size   int
}

// told are what tokens become, and what ends a block.
func told(l []api.Token) iter.Seq[part] {
	return func(yield func(part) bool) {
		for _, t := range l {
			if t.Len == 0 {
				if !yield(part{symbol: int(t.Byte)}) {
					return
				}
			} else if !yield(length(t.Len)) || !yield(distance(t.Dist)) {
				return
			}
		}
		yield(part{symbol: end})
	}
}

// length tells how long a repetition is.
func length(n int) part {
	if n == longest {
		return part{symbol: lastRepeat}
	}
	p := stepped(n-shortest, 4)
	p.symbol += firstRepeat
	return p
}

// distance tells how far ahead a repetition stood.
func distance(n int) part {
	p := stepped(n-1, 2)
	p.code = ofDistances
	return p
}

// stepped tells a number by a step and the bits behind it. The first steps, twice each, are numbers themselves; of the
// others, each so many have one bit more behind them than those ahead, and tell twice as many numbers.
func stepped(n, each int) part {
	size := 0
	for n>>size >= 2*each {
		size++
	}
	return part{symbol: n>>size + each*size, more: n & (1<<size - 1), size: size}
}
