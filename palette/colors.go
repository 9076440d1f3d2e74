package palette

import "slices"

// A palette has at most mostColors colours, each of which is told as colorBytes bytes.
const (
	mostColors = 16
	colorBytes = 3
)

// count are the colours of pixels in the order in which they come first, and the number of each. It stops at the first
// one that is one too many.
func count(pix []uint32) ([]uint32, map[uint32]uint32) {
	var colors []uint32
	number := map[uint32]uint32{}
	for _, p := range pix {
		c := low(p)
		if _, known := number[c]; known {
			continue
		}
		number[c] = uint32(len(colors))
		colors = append(colors, c)
		if len(colors) > mostColors {
			break
		}
	}
	return colors, number
}

// low is what counts of a pixel's number.
func low(pixel uint32) uint32 {
	return pixel & 0xffffff
}

// tellColors are the bytes that a palette of these colours begins with.
func tellColors(colors []uint32) []byte {
	b := []byte{byte(len(colors) - 1)}
	for _, c := range colors {
		b = append(b, byte(c>>16), byte(c>>8), byte(c))
	}
	return b
}

// readColors are the colours that a palette's bytes begin with, the bytes behind these, and whether there are so many.
func readColors(b []byte) ([]uint32, []byte, bool) {
	if len(b) == 0 || b[0] >= mostColors {
		return nil, nil, false
	}
	size := 1 + (int(b[0])+1)*colorBytes
	if len(b) < size {
		return nil, nil, false
	}
	var colors []uint32
	for c := range slices.Chunk(b[1:size], colorBytes) {
		colors = append(colors, uint32(c[0])<<16|uint32(c[1])<<8|uint32(c[2]))
	}
	return colors, b[size:], true
}
