package palette_test

import (
	"slices"

	"vignette/api"
)

const most = api.MaxSide * api.MaxSide

// numbers goes on, from one number to the next, through numbers that look as if they came by chance.
type numbers uint64

func (s *numbers) below(n int) int {
	*s = *s*6364136223846793005 + 1442695040888963407
	return int(uint64(*s>>17) % uint64(n))
}

// colors are so many, none of them twice.
func (s *numbers) colors(n int) []uint32 {
	var l []uint32
	for len(l) < n {
		if c := uint32(s.below(1 << 24)); !slices.Contains(l, c) {
			l = append(l, c)
		}
	}
	return l
}

// of are so many pixels of some colours, with any high bits.
func (s *numbers) of(n int, colors []uint32) []uint32 {
	l := make([]uint32, n)
	for i := range l {
		l[i] = colors[s.below(len(colors))] | uint32(s.below(256))<<24
	}
	return l
}

// bytes are so many, of any bits.
func (s *numbers) bytes(n int) []byte {
	l := make([]byte, n)
	for i := range l {
		l[i] = byte(s.below(256))
	}
	return l
}

// The chapter's words: a row of bits is one number, 0 or 1, a bit.

// lowOf are the pixels' 24 low bits.
func lowOf(pix []uint32) []uint32 {
	var l []uint32
	for _, p := range pix {
		l = append(l, p%(1<<24))
	}
	return l
}

// sizeOf is how many bits a number has, where there are k colours.
func sizeOf(k int) int {
	return []int{0, 0, 1, 2, 2, 4, 4, 4, 4, 4, 4, 4, 4, 4, 4, 4, 4}[k]
}

// laid are the bytes of a palette of these colours, and of pixels that have these numbers; behind the last one a bit
// more, if there is one behind it at all.
func laid(colors []uint32, places []int, behind int) []byte {
	b := []byte{byte(len(colors) - 1)}
	for _, c := range colors {
		b = append(b, byte(c/65536), byte(c/256%256), byte(c%256))
	}
	var row []int
	for _, place := range places {
		for range sizeOf(len(colors)) {
			row = append(row, place%2)
			place /= 2
		}
	}
	for len(row)%8 != 0 {
		row = append(row, behind)
	}
	for ; len(row) > 0; row = row[8:] {
		b = append(b, byte(row[0]+2*row[1]+4*row[2]+8*row[3]+16*row[4]+32*row[5]+64*row[6]+128*row[7]))
	}
	return b
}

// bytesOf are the bytes of the pixels' palette, and whether they have one.
func bytesOf(pix []uint32) ([]byte, bool) {
	var colors []uint32
	var places []int
	for _, p := range lowOf(pix) {
		place := slices.Index(colors, p)
		if place < 0 {
			place = len(colors)
			colors = append(colors, p)
		}
		if len(colors) > 16 {
			return nil, false
		}
		places = append(places, place)
	}
	if len(colors) == 0 {
		return nil, false
	}
	return laid(colors, places, 0), true
}

// pixelsOf are the pixels that bytes tell, and whether they are a palette of n pixels.
func pixelsOf(b []byte, n int) ([]uint32, bool) {
	if len(b) == 0 || b[0] > 15 {
		return nil, false
	}
	k := int(b[0]) + 1
	b = b[1:]
	var colors []uint32
	for range k {
		if len(b) < 3 {
			return nil, false
		}
		colors = append(colors, uint32(b[0])*65536+uint32(b[1])*256+uint32(b[2]))
		b = b[3:]
	}
	var row []int
	for _, x := range b {
		for range 8 {
			row = append(row, int(x%2))
			x /= 2
		}
	}
	var pix []uint32
	for range n {
		place, weight := 0, 1
		for range sizeOf(k) {
			if len(row) == 0 {
				return nil, false
			}
			place += row[0] * weight
			weight *= 2
			row = row[1:]
		}
		if place >= k {
			return nil, false
		}
		pix = append(pix, colors[place])
	}
	return pix, len(row) < 8 && !slices.Contains(row, 1)
}

// rowsOf hands on all rows of n numbers below a limit.
func rowsOf(n, limit int, each func(row []int)) {
	row := make([]int, n)
	for {
		each(row)
		i := 0
		for ; i < n && row[i] == limit-1; i++ {
			row[i] = 0
		}
		if i == n {
			return
		}
		row[i]++
	}
}
