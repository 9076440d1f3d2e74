package palette

import (
	"slices"

	"vignette/api"
	"vignette/bits"
)

const byteBits = 8

// width is how many bits the number of one of so many colours has.
func width(colors int) int {
	switch {
	case colors <= 1:
		return 0
	case colors <= 2:
		return 1
	case colors <= 4:
		return 2
	}
	return 4
}

// tellNumbers are the pixels' numbers, one behind the other, as bytes.
func tellNumbers(pix []uint32, number map[uint32]uint32) []byte {
	size := width(len(number))
	if size == 0 {
		return nil
	}
	var b []byte
	// A writer has room for so many bits alone, which end with a byte: more pixels take several.
	for part := range slices.Chunk(pix, byteBits*api.MaxOut/size) {
		var w bits.Writer
		lay := w.Put
		for _, p := range part {
			lay(number[low(p)], size)
		}
		b = append(b, w.Bytes()...)
	}
	return b
}

// readPixels are n pixels whose numbers some bytes are, and whether they are just so many, with bits 0 behind them.
func readPixels(b []byte, colors []uint32, n int) ([]uint32, bool) {
	size := width(len(colors))
	if len(b) != (n*size+byteBits-1)/byteBits {
		return nil, false
	}
	r := bits.New(b)
	pix := make([]uint32, n)
	for i := range pix {
		at, _ := r.Get(size)
		if int(at) >= len(colors) {
			return nil, false
		}
		pix[i] = colors[at]
	}
	behind, _ := r.Get(r.Left())
	return pix, behind == 0
}
