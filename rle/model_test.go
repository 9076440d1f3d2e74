package rle_test

import (
	"slices"

	"vignette/api"
)

const most = api.MaxSide * api.MaxSide

// numbers goes on, from one number to the next, through numbers that look as if they came by chance.
type numbers uint64

func (s *numbers) below(n int) int {
	*s = *s*6364136223846793005 + 1442695040888963407
	return int(uint64(*s>>17) % uint64(n))
}

// pixels are so many, of any 32 bits.
func (s *numbers) pixels(n int) []uint32 {
	l := make([]uint32, n)
	for i := range l {
		l[i] = uint32(s.below(1 << 32))
	}
	return l
}

// rows are some rows of pixels of so many colours, each of 1 to longest pixels, with any high bits.
func (s *numbers) rows(count, colors, longest int) []uint32 {
	some := s.pixels(colors)
	var l []uint32
	for range count {
		color := some[s.below(colors)]
		for range 1 + s.below(longest) {
			l = append(l, color&0xffffff|uint32(s.below(256))<<24)
		}
	}
	return l
}

// bytes are so many, of any bits.
func (s *numbers) bytes(n int) []byte {
	l := make([]byte, n)
	for i := range l {
		l[i] = byte(s.below(256))
	}
	return l
}

// The chapter's words, pixel by pixel.

// lowOf are the pixels' 24 low bits.
func lowOf(pix []uint32) []uint32 {
	var l []uint32
	for _, p := range pix {
		l = append(l, p%(1<<24))
	}
	return l
}

// bytesOf are the runs' bytes: a pixel that is as the one ahead goes into that one's run, if there is room for it.
func bytesOf(pix []uint32) []byte {
	var counts, colors []uint32
	for _, p := range lowOf(pix) {
		last := len(colors) - 1
		if last < 0 || colors[last] != p || counts[last] == 256 {
			counts, colors = append(counts, 1), append(colors, p)
			continue
		}
		counts[last]++
	}
	var b []byte
	for i, p := range colors {
		b = append(b, byte(counts[i]-1), byte(p/65536), byte(p/256%256), byte(p%256))
	}
	return b
}

// pixelsOf are the pixels that bytes tell, and whether they are runs of n pixels.
func pixelsOf(b []byte, n int) ([]uint32, bool) {
	var l []uint32
	for len(b) >= 4 {
		color := uint32(b[1])*65536 + uint32(b[2])*256 + uint32(b[3])
		l = append(l, slices.Repeat([]uint32{color}, int(b[0])+1)...)
		b = b[4:]
	}
	if len(b) > 0 || len(l) != n {
		return nil, false
	}
	return l, true
}

// of are pixels that are alike.
func of(n int, color uint32) []uint32 { return slices.Repeat([]uint32{color}, n) }

// rowsOf hands on all rows of n pixels of so many colours.
func rowsOf(n int, colors uint32, each func(pix []uint32)) {
	pix := make([]uint32, n)
	for {
		each(pix)
		i := 0
		for ; i < n && pix[i] == colors-1; i++ {
			pix[i] = 0
		}
		if i == n {
			return
		}
		pix[i]++
	}
}

// runsOf hands on the bytes of all rows of n runs of so many colours, each of at most longest pixels, and how many pixels
// they are.
func runsOf(n, longest int, colors uint32, each func(b []byte, pixels int)) {
	rowsOf(n, uint32(longest)*colors, func(row []uint32) {
		var b []byte
		pixels := 0
		for _, x := range row {
			b = append(b, byte(x/colors), 0, 0, byte(x%colors))
			pixels += int(x/colors) + 1
		}
		each(b, pixels)
	})
}
