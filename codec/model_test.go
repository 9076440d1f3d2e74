package codec_test

import (
	"slices"

	"vignette/api"
	"vignette/deflate"
	"vignette/inflate"
	"vignette/palette"
	"vignette/rle"
)

const most = api.MaxSide * api.MaxSide

// numbers goes on, from one number to the next, through numbers that look as if they came by chance.
type numbers uint64

func (s *numbers) below(n int) int {
	*s = *s*6364136223846793005 + 1442695040888963407
	return int(uint64(*s>>17) % uint64(n))
}

// pixels are so many, of any 32 bits.
func (s *numbers) pixels(n int) []uint32 {
	l := make([]uint32, n)
	for i := range l {
		l[i] = uint32(s.below(1 << 32))
	}
	return l
}

// bytes are so many, of any bits.
func (s *numbers) bytes(n int) []byte {
	l := make([]byte, n)
	for i := range l {
		l[i] = byte(s.below(256))
	}
	return l
}

// of are so many pixels of some colours, in rows of 1 to longest like ones, with any high bits.
func (s *numbers) of(n, longest int, colors []uint32) []uint32 {
	var l []uint32
	for len(l) < n {
		color := colors[s.below(len(colors))]
		for range 1 + s.below(longest) {
			l = append(l, color&0xffffff|uint32(s.below(256))<<24)
		}
	}
	return l[:n]
}

// slope are so many pixels each of whose colours is near the one ahead of it.
func (s *numbers) slope(n, w, step int) []uint32 {
	l := make([]uint32, n)
	for i := range l {
		l[i] = uint32(i%w*step) | uint32(s.below(256))<<24
	}
	return l
}

// The chapter's words.

// mayBe says whether a picture may be: its sides are looked at ahead of their product.
func mayBe(m api.Image) bool {
	return m.W >= 1 && m.W <= 256 && m.H >= 1 && m.H <= 256 && len(m.Pix) == m.W*m.H
}

// lowOf are the pixels' 24 low bits.
func lowOf(pix []uint32) []uint32 {
	var l []uint32
	for _, p := range pix {
		l = append(l, p%(1<<24))
	}
	return l
}

// plainOf are a picture's plain bytes.
func plainOf(pix []uint32) []byte {
	var l []byte
	for _, p := range lowOf(pix) {
		l = append(l, byte(p/65536), byte(p/256%256), byte(p%256))
	}
	return l
}

// pixelsOf are the n pixels that bytes of a kind tell, and whether they tell them.
func pixelsOf(kind uint8, b []byte, n int) ([]uint32, bool) {
	switch kind {
	case 1:
		if len(b) != 3*n {
			return nil, false
		}
		var l []uint32
		for i := range n {
			l = append(l, uint32(b[3*i])*65536+uint32(b[3*i+1])*256+uint32(b[3*i+2]))
		}
		return l, true
	case 2:
		l, err := rle.Decode(b, n)
		return l, err == api.OK
	case 3:
		l, err := palette.Decode(b, n)
		return l, err == api.OK
	}
	plain, read, err := inflate.Inflate(b, 3*n)
	if err != api.OK || len(plain) < 3*n || read < len(b) {
		return nil, false
	}
	return pixelsOf(1, plain, n)
}

// kindsOf are the bytes of each kind from 1 on; of one that the pixels do not have, none.
func kindsOf(pix []uint32) [][]byte {
	b, is := palette.Encode(pix)
	if !is {
		b = nil
	}
	stream, _ := deflate.Deflate(plainOf(pix))
	return [][]byte{plainOf(pix), rle.Encode(pix), b, stream}
}

// bestOf is the kind that takes the fewest bytes, of several the least one; these bytes; and the kinds that take as many.
func bestOf(pix []uint32) (uint8, []byte, []uint8) {
	all := kindsOf(pix)
	size := len(all[0])
	for _, b := range all {
		if len(b) > 0 {
			size = min(size, len(b))
		}
	}
	var kinds []uint8
	for i, b := range all {
		if len(b) == size {
			kinds = append(kinds, uint8(i+1))
		}
	}
	return kinds[0], slices.Clone(all[kinds[0]-1]), kinds
}
