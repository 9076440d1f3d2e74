package deflate_test

import (
	"bytes"
	"compress/flate"
	"io"
	"testing"

	"vignette/api"
	"vignette/deflate"
	"vignette/inflate"
	"vignette/lz"
)

// numbers goes on, from one number to the next, through numbers that look as if they came by chance.
type numbers uint64

func (s *numbers) below(n int) int {
	*s = *s*6364136223846793005 + 1442695040888963407
	return int(uint64(*s>>17) % uint64(n))
}

// noise is so many bytes out of the first letters, so many, as if by chance.
func (s *numbers) noise(n, letters int) []byte {
	b := make([]byte, n)
	for i := range b {
		b[i] = byte(s.below(letters))
	}
	return b
}

// mixed is some bytes in another order.
func (s *numbers) mixed(b []byte) []byte {
	for i := range b {
		j := s.below(i + 1)
		b[i], b[j] = b[j], b[i]
	}
	return b
}

// storedSize is how many bytes the stored form has.
func storedSize(n int) int {
	blocks := 1
	for left := n; left > 65535; left -= 65535 {
		blocks++
	}
	return n + 5*blocks
}

// lengthBits is how many bits a repetition's length takes in a fixed block, as the chapters 8 and 9 list its symbols.
func lengthBits(n int) int {
	base, symbol := 3, 257
	if n == 258 {
		return 8
	}
	for more := range 6 {
		symbols := 4
		if more == 0 {
			symbols = 8
		}
		for range symbols {
			if base <= n && n < base+1<<more {
				return fixedBits(symbol) + more
			}
			base += 1 << more
			symbol++
		}
	}
	panic("no length")
}

// distanceBits is how many bits its distance takes.
func distanceBits(n int) int {
	more := 0
	for last := 4; last < n; last *= 2 {
		more++
	}
	return 5 + more
}

// fixedBits is how many bits a symbol has in a fixed block.
func fixedBits(symbol int) int {
	switch {
	case symbol <= 143:
		return 8
	case symbol <= 255:
		return 9
	case symbol <= 279:
		return 7
	}
	return 8
}

// fixedSize is how many bytes the fixed form has, of these tokens.
func fixedSize(l []api.Token) int {
	n := 3 + fixedBits(256)
	for _, t := range l {
		if t.Len == 0 {
			n += fixedBits(int(t.Byte))
		} else {
			n += lengthBits(t.Len) + distanceBits(t.Dist)
		}
	}
	return (n + 7) / 8
}

// good is the stream of some bytes, which is held against what it must be.
func good(t *testing.T, b []byte) []byte {
	t.Helper()
	was := bytes.Clone(b)
	s, e := deflate.Deflate(b)
	if e != api.OK {
		t.Fatalf("%d bytes, %.40x: %v", len(b), b, e)
	}
	if !bytes.Equal(b, was) {
		t.Fatalf("%d bytes, %.40x: they were changed", len(was), was)
	}
	out, n, e := inflate.Inflate(s, len(b))
	if e != api.OK || n != len(s) || !bytes.Equal(out, b) {
		t.Fatalf("%d bytes, %.40x: %.40x, %d of %d, %v", len(b), b, out, n, len(s), e)
	}
	if stored, fixed := storedSize(len(b)), fixedSize(lz.Match(b)); len(s) > stored || len(s) > fixed {
		t.Fatalf("%d bytes, %.40x: %d; the stored form has %d, the fixed one %d", len(b), b, len(s), stored, fixed)
	}
	others(t, s, b)
	return s
}

// others lets another program read a stream.
func others(t *testing.T, s, want []byte) {
	t.Helper()
	left := bytes.NewReader(s)
	b, err := io.ReadAll(flate.NewReader(left))
	if err != nil || left.Len() > 0 || !bytes.Equal(b, want) {
		t.Fatalf("%d bytes, %.40x: another program read %.40x, and %d were left: %v", len(want), want, b, left.Len(), err)
	}
}

// kind is the type of a stream's first block.
func kind(s []byte) int { return int(s[0] >> 1 & 3) }
