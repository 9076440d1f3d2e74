package inflate

import "vignette/api"

// Symbols below end are bytes; those from firstRepeat to lastRepeat are how long a repetition is.
const (
	end         = 256
	firstRepeat = 257
	lastRepeat  = 285
)

const (
	shortest     = 3
	longest      = 258
	lastDistance = 29 // the last symbol that is a distance
)

// tokens lets all bytes of a block come, up to the symbol that ends it.
func (s *stream) tokens(c *codes) {
	for {
		symbol := s.symbol(c.symbols)
		switch {
		case symbol < end:
			s.come(byte(symbol))
		case symbol == end:
			return
		default:
			length := s.length(symbol)
			s.repeat(length, s.distance(s.symbol(c.distances)))
		}
	}
}

// length is how long a repetition of that symbol is.
func (s *stream) length(symbol int) int {
	switch {
	case symbol > lastRepeat:
		panic(api.ErrBlock)
	case symbol == lastRepeat:
		return longest
	}
	return shortest + s.stepped(symbol-firstRepeat, 4)
}

// distance is how far ahead a repetition of that symbol stood.
func (s *stream) distance(symbol int) int {
	if symbol > lastDistance {
		panic(api.ErrBlock)
	}
	return 1 + s.stepped(symbol, 2)
}

// stepped is the number that a step and the bits behind it tell. The first steps, twice each, are numbers themselves; of
// the others, each so many have one bit more behind them than those ahead, and tell twice as many numbers.
func (s *stream) stepped(step, each int) int {
	if step < 2*each {
		return step
	}
	size := step/each - 1
	return (each+step%each)<<size + s.number(size)
}

// repeat lets so many bytes come that stood so far ahead, one by one, as a repetition may reach into itself.
func (s *stream) repeat(length, dist int) {
	if dist > len(s.out) {
		panic(api.ErrDist)
	}
	for range length {
		s.come(s.out[len(s.out)-dist])
	}
}
