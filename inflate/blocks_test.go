package inflate_test

import (
	"slices"
	"sync"

	"vignette/api"
	"vignette/huff"
	"vignette/lz"
)

// numbers goes on, from one number to the next, through numbers that look as if they came by chance.
type numbers uint64

func (s *numbers) below(n int) int {
	*s = *s*6364136223846793005 + 1442695040888963407
	return int(uint64(*s>>17) % uint64(n))
}

// noise is so many bytes of so many letters, as if by chance.
func (s *numbers) noise(n, letters int) []byte {
	b := make([]byte, n)
	for i := range b {
		b[i] = byte(s.below(letters))
	}
	return b
}

// tokens are n tokens that can be expanded, behind so many bytes.
func (s *numbers) tokens(n, ahead int) []api.Token {
	var l []api.Token
	for range n {
		t := api.Token{Byte: byte(s.below(256))}
		if ahead > 0 && s.below(3) > 0 {
			t = rep(3+s.below([]int{2, 10, 256}[s.below(3)]), 1+s.below(min(ahead, 32768)))
		}
		l = append(l, t)
		ahead += max(1, t.Len)
	}
	return l
}

// rep is a repetition.
func rep(size, dist int) api.Token { return api.Token{Len: size, Dist: dist} }

// letters are the tokens of single bytes.
func letters(text string) []api.Token {
	var l []api.Token
	for _, c := range []byte(text) {
		l = append(l, api.Token{Byte: c})
	}
	return l
}

// told is tokens one behind the other: texts and repetitions.
func told(parts ...any) []api.Token {
	var l []api.Token
	for _, p := range parts {
		switch x := p.(type) {
		case string:
			l = append(l, letters(x)...)
		case api.Token:
			l = append(l, x)
		}
	}
	return l
}

// head lays what each block begins with.
func (r *row) head(last bool, kind int) {
	r.put(map[bool]int{true: 1}[last], 1)
	r.put(kind, 2)
}

// stored lays a stored block.
func (r *row) stored(last bool, b []byte) {
	r.head(last, 0)
	r.align()
	r.put(len(b), 16)
	r.put(65535-len(b), 16)
	for _, c := range b {
		r.put(int(c), 8)
	}
}

// coder lays tokens by codes.
type coder struct{ symbols, distances []string }

// coderOf is one of lengths that make codes.
func coderOf(symbols, distances []int) coder {
	s, ok := codesOf(symbols)
	d, fine := codesOf(distances)
	if !ok || !fine {
		panic("lengths that make no code")
	}
	return coder{s, d}
}

// fixedCoder is that of fixed blocks: it is made once, as the tests lay many of them.
var fixedCoder = sync.OnceValue(func() coder { return coderOf(fixedLengths()) })

// partsOf are the symbols' numbers that tell a number: there are two of the length 258.
func partsOf(v int, l []part) []int {
	var found []int
	for i, p := range l {
		if p.base <= v && v < p.base+1<<p.more {
			found = append(found, i)
		}
	}
	return found
}

// parted lays a number by the symbol i.
func (r *row) parted(v, i int, l []part, code string) {
	r.code(code)
	r.put(v-l[i].base, l[i].more)
}

// tokens lays tokens, and what ends a block; pick tells which of two symbols is taken.
func (r *row) tokens(c coder, l []api.Token, pick func(n int) int) {
	lengths, distances := lengthParts(), distanceParts()
	for _, t := range l {
		if t.Len == 0 {
			r.code(c.symbols[t.Byte])
			continue
		}
		found := partsOf(t.Len, lengths)
		i := found[pick(len(found))]
		r.parted(t.Len, i, lengths, c.symbols[257+i])
		i = partsOf(t.Dist, distances)[0]
		r.parted(t.Dist, i, distances, c.distances[i])
	}
	r.code(c.symbols[256])
}

// latest picks the last one.
func latest(n int) int { return n - 1 }

// fixed lays a fixed block.
func (r *row) fixed(last bool, l []api.Token) {
	r.head(last, 1)
	r.tokens(fixedCoder(), l, latest)
}

// piece is a symbol of the lengths' code, and the number behind it, of so many bits.
type piece struct{ symbol, v, n int }

// plain tells lengths one by one.
func plain(lens []int) []piece {
	var l []piece
	for _, n := range lens {
		l = append(l, piece{symbol: n})
	}
	return l
}

// pieces tell lengths, by chance in any way that there is.
func (s *numbers) pieces(lens []int) []piece {
	var l []piece
	for at := 0; at < len(lens); {
		like := 1
		for at+like < len(lens) && lens[at+like] == lens[at] {
			like++
		}
		n, p := 1, piece{symbol: lens[at]}
		switch way := s.below(4); {
		case way == 1 && like >= 3 && at > 0 && lens[at-1] == lens[at]:
			n = 3 + s.below(min(like, 6)-2)
			p = piece{16, n - 3, 2}
		case way == 2 && like >= 3 && lens[at] == 0:
			n = 3 + s.below(min(like, 10)-2)
			p = piece{17, n - 3, 3}
		case way == 3 && like >= 11 && lens[at] == 0:
			n = 11 + s.below(min(like, 138)-10)
			p = piece{18, n - 11, 7}
		}
		l = append(l, p)
		at += n
	}
	return l
}

// sizesFor are lengths of a code that has the symbols of pieces, and more: a frequency for each symbol.
func sizesFor(l []piece, more func() int) []int {
	freq := make([]int, 19)
	for i := range freq {
		freq[i] = more()
	}
	for _, p := range l {
		freq[p.symbol]++
	}
	return lengthsOf(freq, 7)
}

func none() int { return 0 }

// lengthsOf are the lengths of a code.
func lengthsOf(freq []int, limit int) []int {
	lens, e := huff.Lengths(freq, limit)
	if e != api.OK {
		panic(e)
	}
	l := make([]int, len(lens))
	for i, n := range lens {
		l[i] = int(n)
	}
	return l
}

// sizes lays the numbers a, b and c, and the lengths of the lengths' code.
func (r *row) sizes(symbols, distances int, sizes []int) {
	var inOrder []int
	count := 4
	for i, symbol := range lengthOrder() {
		inOrder = append(inOrder, sizes[symbol])
		if sizes[symbol] > 0 {
			count = max(count, i+1)
		}
	}
	r.put(symbols-257, 5)
	r.put(distances-1, 5)
	r.put(count-4, 4)
	for _, n := range inOrder[:count] {
		r.put(n, 3)
	}
}

// pieces lays pieces by the code of such lengths.
func (r *row) pieces(sizes []int, l []piece) {
	codes, ok := codesOf(sizes)
	if !ok {
		panic("lengths that make no code")
	}
	for _, p := range l {
		r.code(codes[p.symbol])
		r.put(p.v, p.n)
	}
}

// lengths lays a dynamic block's beginning, up to where its tokens begin.
func (r *row) lengths(last bool, symbols, distances []int, l []piece) {
	r.head(last, 2)
	sizes := sizesFor(l, none)
	r.sizes(len(symbols), len(distances), sizes)
	r.pieces(sizes, l)
}

// frequencies are how often tokens have their symbols and distances.
func frequencies(l []api.Token) (symbols, distances []int) {
	symbols, distances = make([]int, 286), make([]int, 30)
	symbols[256] = 1
	for _, t := range l {
		if t.Len == 0 {
			symbols[t.Byte]++
			continue
		}
		for _, i := range partsOf(t.Len, lengthParts()) {
			symbols[257+i]++
		}
		distances[partsOf(t.Dist, distanceParts())[0]]++
	}
	return symbols, distances
}

// dynamic lays a dynamic block, by chance in any way that there is.
func (r *row) dynamic(last bool, l []api.Token, s *numbers) {
	symbols, distances := frequencies(l)
	for _, list := range [][]int{symbols, distances} {
		rare := s.below(4)
		for i := range list {
			list[i] += max(0, s.below(1+20*rare)-19*rare) << s.below(9)
		}
	}
	for len(symbols) > 257 && symbols[len(symbols)-1] == 0 && s.below(9) > 0 {
		symbols = symbols[:len(symbols)-1]
	}
	for len(distances) > 1 && distances[len(distances)-1] == 0 && s.below(9) > 0 {
		distances = distances[:len(distances)-1]
	}
	symbols, distances = lengthsOf(symbols, 9+s.below(7)), lengthsOf(distances, 5+s.below(11))
	pieces := s.pieces(slices.Concat(symbols, distances))
	more := []func() int{none, func() int { return s.below(3) }}[s.below(2)]
	sizes := sizesFor(pieces, more)
	r.head(last, 2)
	r.sizes(len(symbols), len(distances), sizes)
	r.pieces(sizes, pieces)
	r.tokens(coderOf(symbols, distances), l, s.below)
}

// blocks lays tokens as blocks of any types, one behind the other, and is the bytes that they tell.
func (r *row) blocks(l []api.Token, s *numbers) []byte {
	all, e := lz.Expand(l)
	if e != api.OK {
		panic(e)
	}
	for at, last := 0, false; !last; {
		n := s.below(min(len(l), 2000) + 1)
		last = n == len(l)
		size := 0
		for _, t := range l[:n] {
			size += max(1, t.Len)
		}
		switch kind := s.below(3); {
		case kind == 0 && size <= 65535:
			r.stored(last, all[at:at+size])
		case kind == 1:
			r.fixed(last, l[:n])
		default:
			r.dynamic(last, l[:n], s)
		}
		l = l[n:]
		at += size
	}
	return all
}
