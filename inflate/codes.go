package inflate

import (
	"slices"

	"vignette/api"
	"vignette/huff"
)

// How many lengths a block's own codes may have.
const (
	mostSymbols   = 286
	mostDistances = 30
)

// Symbols of the lengths' code that are no lengths, but tell several ones.
const (
	again     = 16 // the one ahead
	zeros     = 17
	manyZeros = 18
)

// codes are a block's codes.
type codes struct {
	symbols, distances *huff.Table
}

// table is the code that lengths make.
func table(lens []uint8) *huff.Table {
	t, err := huff.New(lens)
	check(err)
	return t
}

// usualCodes are those of fixed blocks.
func usualCodes() *codes {
	lens := slices.Concat(run(8, 144), run(9, 112), run(7, 24), run(8, 8))
	return &codes{table(lens), table(run(5, 32))}
}

// run is a length, so many times.
func run(length uint8, times int) []uint8 {
	return slices.Repeat([]uint8{length}, times)
}

// ownCodes are those that a dynamic block begins with.
func (s *stream) ownCodes() *codes {
	symbols, distances, sizes := s.number(5)+257, s.number(5)+1, s.number(4)+4
	if symbols > mostSymbols || distances > mostDistances {
		panic(api.ErrBlock)
	}
	lens := s.lengths(s.lengthsCode(sizes), symbols+distances)
	if lens[end] == 0 {
		panic(api.ErrBlock)
	}
	return &codes{table(lens[:symbols]), table(lens[symbols:])}
}

// lengthsCode is the code by which lengths are told, of which so many symbols have lengths.
func (s *stream) lengthsCode(n int) *huff.Table {
	// Those that are mostly needed are ahead, so that those behind may be left out.
	order := [...]uint8{again, zeros, manyZeros, 0, 8, 7, 9, 6, 10, 5, 11, 4, 12, 3, 13, 2, 14, 1, 15}
	var lens [len(order)]uint8
	for _, symbol := range order[:n] {
		lens[symbol] = uint8(s.number(3))
	}
	return table(lens[:])
}

// lengths are n of them.
func (s *stream) lengths(code *huff.Table, n int) []uint8 {
	var lens []uint8
	for len(lens) < n {
		length, times := s.several(code, lens)
		if times > n-len(lens) {
			panic(api.ErrBlock)
		}
		lens = append(lens, run(length, times)...)
	}
	return lens
}

// several is the length that comes behind others, and how many times.
func (s *stream) several(code *huff.Table, ahead []uint8) (uint8, int) {
	switch symbol := s.symbol(code); symbol {
	case again:
		if len(ahead) == 0 {
			panic(api.ErrBlock)
		}
		return ahead[len(ahead)-1], 3 + s.number(2)
	case zeros:
		return 0, 3 + s.number(3)
	case manyZeros:
		return 0, 11 + s.number(7)
	default:
		return uint8(symbol), 1
	}
}
