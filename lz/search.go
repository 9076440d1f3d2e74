package lz

import "vignette/api"

// search looks for the best matches of bytes.
type search struct {
	b     []byte
	ahead []uint16 // for each place at which three bytes begin: how far ahead they stood last; 0 if too far, or never
}

// stood tells for each place how far ahead its three bytes stood last.
func stood(b []byte) []uint16 {
	last := map[[shortest]byte]int{}
	ahead := make([]uint16, max(0, len(b)-shortest+1))
	for at := range ahead {
		three := [shortest]byte{b[at], b[at+1], b[at+2]}
		if was, ok := last[three]; ok && at-was <= farthest {
			ahead[at] = uint16(at - was)
		}
		last[three] = at
	}
	return ahead
}

// token is the repetition of the best match at a place, or the byte that stands there.
func (s search) token(at int) api.Token {
	best := api.Token{Byte: s.b[at]}
	most := min(longest, len(s.b)-at)
	longer := func(dist int) bool {
		if s.b[at+best.Len] != s.b[at+best.Len-dist] {
			return false
		}
		n := s.match(at, dist, most)
		if n <= best.Len {
			return false
		}
		best = api.Token{Len: n, Dist: dist}
		return true
	}
	if most < shortest {
		return best
	}
	// A match that is longer than the best one has all its threes of bytes, and that which ends with the next byte too: so
	// it is enough to go through the places of one of them, and the rarest is the fastest to go through.
	from := at
	for dist := s.next(from, 0); 0 < dist && dist <= at; dist = s.next(from, dist) {
		if dist <= best.Dist || !longer(dist) {
			continue
		}
		if best.Len == most {
			break
		}
		from = s.rarest(from, at+best.Len-shortest+1)
		dist = 0
	}
	return best
}

// next is the next distance behind dist at which the three bytes at a place stood ahead of it, or 0 if there is none.
func (s search) next(from, dist int) int {
	hop := int(s.ahead[from-dist])
	if hop == 0 || dist+hop > farthest {
		return 0
	}
	return dist + hop
}

// rarest is the place, from one to another one, whose three bytes stood last furthest ahead.
func (s search) rarest(from, to int) int {
	rare := from
	for at := from; at <= to; at++ {
		if s.ahead[at] == 0 {
			return at
		}
		if s.ahead[at] > s.ahead[rare] {
			rare = at
		}
	}
	return rare
}

// match is how many bytes from a place on, at most so many, are the ones that stand so far ahead.
func (s search) match(at, dist, most int) int {
	n := 0
	for n < most && s.b[at+n] == s.b[at+n-dist] {
		n++
	}
	return n
}
