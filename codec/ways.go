package codec

import (
	"vignette/api"
	"vignette/deflate"
	"vignette/inflate"
	"vignette/palette"
	"vignette/rle"
)

// way is what one kind of bytes does: it tells pixels, if it can, and reads so many of them.
type way struct {
	tell func(pix []uint32) ([]byte, bool)
	read func(b []byte, n int) ([]uint32, api.Errno)
}

// ways are those of the kinds from 1 on.
func ways() [4]way {
	return [4]way{
		{tellPlain, readPlain},
		{tellRuns, rle.Decode},
		{palette.Encode, palette.Decode},
		{tellStream, readStream},
	}
}

// tellRuns are the runs of pixels, which all pixels have.
func tellRuns(pix []uint32) ([]byte, bool) {
	return rle.Encode(pix), true
}

// tellStream is a deflated stream of the pixels' plain bytes.
func tellStream(pix []uint32) ([]byte, bool) {
	plain, _ := tellPlain(pix)
	b, err := deflate.Deflate(plain)
	return b, err == api.OK
}

// readStream are the n pixels whose plain bytes come out of a stream, behind which nothing stands.
func readStream(b []byte, n int) ([]uint32, api.Errno) {
	plain, read, err := inflate.Inflate(b, n*pixelBytes)
	if err != api.OK {
		return nil, err
	}
	if read != len(b) {
		return nil, api.ErrData
	}
	return readPlain(plain, n)
}
