package deflate

import (
	"iter"
	"slices"

	"vignette/huff"
)

// How many symbols a block's own codes may have, at least and at most, and how many bits one of their codes may have.
const (
	leastSymbols   = 257
	leastDistances = 1
	mostSymbols    = 286
	mostDistances  = 30
	mostSize       = 15
)

// The same of the lengths' code.
const (
	leastLengths   = 4
	mostLengths    = 19
	mostLengthSize = 7
)

// coder is a code by which symbols are laid.
type coder struct {
	lens  []uint8
	codes []uint16
}

// coderOf is the code that lengths make.
func coderOf(lens []uint8) coder {
	codes, _ := huff.Codes(lens)
	return coder{lens, codes}
}

// usualCodes are those of fixed blocks.
func usualCodes() []coder {
	symbols := slices.Concat(alike(8, 144), alike(9, 112), alike(7, 24), alike(8, 8))
	return []coder{coderOf(symbols), coderOf(alike(5, 32))}
}

// alike is a length, so many times.
func alike(length uint8, times int) []uint8 {
	return slices.Repeat([]uint8{length}, times)
}

// bestCodes are those by which parts take the fewest bits. Each has so many symbols, and none has more bits than limit.
func bestCodes(parts iter.Seq[part], limit int, symbols ...int) []coder {
	freq := make([][]int, len(symbols))
	for i, n := range symbols {
		freq[i] = make([]int, n)
	}
	for p := range parts {
		freq[p.code][p.symbol]++
	}
	var codes []coder
	for _, f := range freq {
		lens, _ := huff.Lengths(f, limit)
		codes = append(codes, coderOf(lens))
	}
	return codes
}

// ownCodes lays what tells a block's own codes.
func (s *stream) ownCodes(symbols, distances coder) {
	first, second := trimmed(symbols.lens, leastSymbols), trimmed(distances.lens, leastDistances)
	row := slices.Concat(first, second)
	codes := bestCodes(runs(row), mostLengthSize, mostLengths)
	sizes := trimmed(ordered(codes[0].lens), leastLengths)
	s.number(len(first)-leastSymbols, 5)
	s.number(len(second)-leastDistances, 5)
	s.number(len(sizes)-leastLengths, 4)
	for _, size := range sizes {
		s.number(int(size), 3)
	}
	s.lay(runs(row), codes)
}

// trimmed leaves out lengths 0 at the end, but so many stay.
func trimmed(lens []uint8, least int) []uint8 {
	for len(lens) > least && lens[len(lens)-1] == 0 {
		lens = lens[:len(lens)-1]
	}
	return lens
}

// ordered are the lengths of the lengths' code, as a block tells them: those that are mostly 0 are at the end.
func ordered(lens []uint8) []uint8 {
	var l []uint8
	for _, symbol := range [mostLengths]int{again, zeros, manyZeros, 0, 8, 7, 9, 6, 10, 5, 11, 4, 12, 3, 13, 2, 14, 1, 15} {
		l = append(l, lens[symbol])
	}
	return l
}
