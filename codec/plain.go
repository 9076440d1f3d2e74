package codec

import (
	"iter"
	"slices"

	"vignette/api"
)

// pixelBytes is how many plain bytes a pixel has.
const pixelBytes = 3

// plain goes through the plain bytes of pixels.
func plain(pix []uint32) iter.Seq[byte] {
	return func(yield func(byte) bool) {
		for _, p := range pix {
			if !yield(byte(p>>16)) || !yield(byte(p>>8)) || !yield(byte(p)) {
				return
			}
		}
	}
}

// tellPlain are the plain bytes, which all pixels have.
func tellPlain(pix []uint32) ([]byte, bool) {
	return slices.AppendSeq(make([]byte, 0, len(pix)*pixelBytes), plain(pix)), true
}

// readPlain are the n pixels of which these are the plain bytes.
func readPlain(b []byte, n int) ([]uint32, api.Errno) {
	if len(b) != n*pixelBytes {
		return nil, api.ErrData
	}
	pix := make([]uint32, 0, n)
	for color := range slices.Chunk(b, pixelBytes) {
		pix = append(pix, uint32(color[0])<<16|uint32(color[1])<<8|uint32(color[2]))
	}
	return pix, api.OK
}
