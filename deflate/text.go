package deflate

import "vignette/api"

// text is bytes, and the tokens that tell them.
type text struct {
	bytes  []byte
	tokens []api.Token
}

// stream is the shortest one of those that there are, one in each form.
func (t text) stream() *stream {
	var best *stream
	for _, write := range []func(*stream){t.stored, t.fixed, t.dynamic} {
		s := &stream{}
		write(s)
		if best == nil || s.Len() < best.Len() {
			best = s
		}
	}
	return best
}

// stored writes blocks of bytes as they are, at least one.
func (t text) stored(s *stream) {
	rest := t.bytes
	for len(rest) > mostStored {
		s.stored(false, rest[:mostStored])
		rest = rest[mostStored:]
	}
	s.stored(true, rest)
}

// fixed writes a block by the codes that are always the same.
func (t text) fixed(s *stream) {
	s.head(true, fixedKind)
	s.lay(told(t.tokens), usualCodes())
}

// dynamic writes a block by the codes that are best for it.
func (t text) dynamic(s *stream) {
	s.head(true, dynamicKind)
	codes := bestCodes(told(t.tokens), mostSize, mostSymbols, mostDistances)
	s.ownCodes(codes[ofSymbols], codes[ofDistances])
	s.lay(told(t.tokens), codes)
}
