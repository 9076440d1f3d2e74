package deflate

import (
	"iter"

	"vignette/bits"
)

// What blocks are by their types.
const (
	storedKind = iota
	fixedKind
	dynamicKind
)

const (
	byteBits   = 8
	sizeBits   = 16 // of each number that a stored block begins with
	mostStored = 1<<sizeBits - 1
)

// stream is one that is written. Nothing that is laid is refused: each number fits its bits, and no form takes as many bits
// as a writer may have.
type stream struct{ bits.Writer }

// number lays a number of n bits.
func (s *stream) number(v, n int) {
	s.Put(uint32(v), n)
}

// head lays what each block begins with.
func (s *stream) head(last bool, kind int) {
	flag := 0
	if last {
		flag = 1
	}
	s.number(flag, 1)
	s.number(kind, 2)
}

// stored lays a block of bytes as they are.
func (s *stream) stored(last bool, b []byte) {
	s.head(last, storedKind)
	s.Align()
	s.number(len(b), sizeBits)
	s.number(mostStored-len(b), sizeBits)
	for _, c := range b {
		s.number(int(c), byteBits)
	}
}

// lay lays parts by their codes.
func (s *stream) lay(parts iter.Seq[part], codes []coder) {
	for p := range parts {
		c := codes[p.code]
		s.number(int(c.codes[p.symbol]), int(c.lens[p.symbol]))
		s.number(p.more, p.size)
	}
}
