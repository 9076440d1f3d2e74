package inflate

import (
	"vignette/api"
	"vignette/bits"
	"vignette/huff"
)

const (
	byteBits = 8
	sizeBits = 16 // of each number that a stored block begins with
)

// stream is one that is read.
type stream struct {
	*bits.Reader
	out   []byte
	limit int // how many bytes may come
	usual *codes
}

// read lets all bytes come, and goes on to the end of the last one that was read. What is wrong with a stream is thrown by
// whoever finds it, and caught here.
func (s *stream) read() (err api.Errno) {
	defer func() {
		if wrong := recover(); wrong != nil {
			err = wrong.(api.Errno)
		}
	}()
	s.blocks()
	check(s.Align())
	return api.OK
}

// check throws an error.
func check(err api.Errno) {
	if err != api.OK {
		panic(err)
	}
}

// number is the one that the next n bits are.
func (s *stream) number(n int) int {
	v, err := s.Get(n)
	check(err)
	return int(v)
}

// symbol is the one whose code the next bits are.
func (s *stream) symbol(t *huff.Table) int {
	symbol, err := t.Read(s.Reader)
	check(err)
	return symbol
}

// blocks goes through all blocks.
func (s *stream) blocks() {
	kinds := [...]func(*stream){(*stream).stored, (*stream).fixed, (*stream).dynamic, (*stream).unknown}
	for last := false; !last; {
		last = s.number(1) == 1
		kinds[s.number(2)](s)
	}
}

// stored is a block of bytes as they are.
func (s *stream) stored() {
	check(s.Align())
	n, m := s.number(sizeBits), s.number(sizeBits)
	if m != 1<<sizeBits-1-n {
		panic(api.ErrBlock)
	}
	// That they are too many is told ahead of that they are not there.
	if n > s.limit-len(s.out) {
		panic(api.ErrOver)
	}
	for range n {
		s.come(byte(s.number(byteBits)))
	}
}

// fixed is a block whose codes are always the same.
func (s *stream) fixed() {
	// A stream may have as many such blocks as bytes: their codes are made but once.
	if s.usual == nil {
		s.usual = usualCodes()
	}
	s.tokens(s.usual)
}

// dynamic is a block that tells its codes.
func (s *stream) dynamic() {
	s.tokens(s.ownCodes())
}

// unknown is a block of a type that there is not.
func (s *stream) unknown() {
	panic(api.ErrBlock)
}

// come lets one byte come.
func (s *stream) come(c byte) {
	if len(s.out) == s.limit {
		panic(api.ErrOver)
	}
	s.out = append(s.out, c)
}
