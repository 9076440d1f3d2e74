package inflate_test

import (
	"fmt"
	"slices"
	"sync"

	"vignette/api"
)

// row is a model of a row of bits: each is one number, 0 or 1.
type row []int

// put lays a number of n bits, low bit first.
func (r *row) put(v, n int) {
	for range n {
		*r = append(*r, v%2)
		v /= 2
	}
}

// code lays a code that is told as a text, first bit first.
func (r *row) code(c string) {
	for _, x := range c {
		*r = append(*r, int(x-'0'))
	}
}

// align lays bits 0 until the row ends with a byte.
func (r *row) align() {
	for len(*r)%8 != 0 {
		*r = append(*r, 0)
	}
}

// bytes are the row's, with bits 0 behind the last one.
func (r row) bytes() []byte {
	b := make([]byte, (len(r)+7)/8)
	for i, bit := range r {
		b[i/8] |= byte(bit << (i % 8))
	}
	return b
}

// rowOf is the row of some bytes.
func rowOf(b []byte) row {
	var r row
	for _, x := range b {
		r.put(int(x), 8)
	}
	return r
}

// codesOf are the codes of lengths, as texts, by chapter 6, and whether the lengths make a code.
func codesOf(lens []int) ([]string, bool) {
	count, weight := 0, 0
	for _, n := range lens {
		if n > 0 {
			count++
			weight += 1 << (15 - n)
		}
	}
	if count > 0 && weight != 1<<15 && !(count == 1 && weight == 1<<14) {
		return nil, false
	}
	codes := make([]string, len(lens))
	next, ahead := 0, 0
	for n := 1; n <= 15; n++ {
		for symbol, size := range lens {
			if size != n {
				continue
			}
			if ahead > 0 {
				next = (next + 1) << (n - ahead)
			}
			ahead = n
			codes[symbol] = fmt.Sprintf("%0*b", n, next)
		}
	}
	return codes, true
}

// part is where a repetition's lengths or distances begin that have one symbol, and how many bits more they have.
type part struct{ base, more int }

// lengthParts are those of the symbols 257 to 285, as the chapter lists them.
func lengthParts() []part {
	var l []part
	for n := 3; n <= 10; n++ {
		l = append(l, part{n, 0})
	}
	for i, four := range [][]int{{11, 13, 15, 17}, {19, 23, 27, 31}, {35, 43, 51, 59}, {67, 83, 99, 115}, {131, 163, 195, 227}} {
		for _, base := range four {
			l = append(l, part{base, i + 1})
		}
	}
	return append(l, part{258, 0})
}

// distanceParts are those of the symbols 0 to 29: each begins where the numbers of the one ahead end.
func distanceParts() []part {
	l := []part{{1, 0}, {2, 0}, {3, 0}, {4, 0}}
	for more := 1; more <= 13; more++ {
		for range 2 {
			ahead := l[len(l)-1]
			l = append(l, part{ahead.base + 1<<ahead.more, more})
		}
	}
	return l
}

// fixedLengths are those of fixed blocks.
func fixedLengths() (symbols, distances []int) {
	for symbol := range 288 {
		switch {
		case symbol <= 143:
			symbols = append(symbols, 8)
		case symbol <= 255:
			symbols = append(symbols, 9)
		case symbol <= 279:
			symbols = append(symbols, 7)
		default:
			symbols = append(symbols, 8)
		}
	}
	return symbols, slices.Repeat([]int{5}, 32)
}

func lengthOrder() []int {
	return []int{16, 17, 18, 0, 8, 7, 9, 6, 10, 5, 11, 4, 12, 3, 13, 2, 14, 1, 15}
}

// fixedReads are the codes of fixed blocks: they are made once, as the tests read many streams.
var fixedReads = sync.OnceValues(func() (reads, reads) {
	c := fixedCoder()
	return readsOf(c.symbols), readsOf(c.distances)
})

// model reads a stream bit by bit, by the chapter's words. As soon as something is wrong, that stays, and nothing more is
// read.
type model struct {
	row   row
	at    int
	out   []byte
	limit int
	wrong api.Errno
}

// inflated is what Inflate is to answer.
func inflated(b []byte, limit int) ([]byte, int, api.Errno) {
	if limit < 0 || limit > 1<<19 {
		return nil, 0, api.ErrArg
	}
	m := model{row: rowOf(b), limit: limit}
	for last := 0; last == 0 && m.wrong == api.OK; {
		last = m.get(1)
		m.block(m.get(2))
	}
	if m.wrong != api.OK {
		return nil, 0, m.wrong
	}
	return m.out, (m.at + 7) / 8, api.OK
}

// fail keeps the first thing that is wrong.
func (m *model) fail(e api.Errno) {
	if m.wrong == api.OK {
		m.wrong = e
	}
}

func (m *model) get(n int) int {
	if n > len(m.row)-m.at {
		m.fail(api.ErrBits)
	}
	if m.wrong != api.OK {
		return 0
	}
	v := 0
	for i, bit := range m.row[m.at : m.at+n] {
		v += bit << i
	}
	m.at += n
	return v
}

// reads are codes that are read: the symbols by the codes' texts, and how many bits the longest one has.
type reads struct {
	symbols map[string]int
	most    int
}

func (m *model) reads(lens []int) reads {
	codes, ok := codesOf(lens)
	if !ok {
		m.fail(api.ErrCode)
	}
	return readsOf(codes)
}

func readsOf(codes []string) reads {
	r := reads{symbols: map[string]int{}}
	for symbol, c := range codes {
		if c != "" {
			r.symbols[c] = symbol
			r.most = max(r.most, len(c))
		}
	}
	return r
}

func (m *model) symbol(r reads) int {
	text := ""
	for len(text) < r.most {
		text += string(rune('0' + m.get(1)))
		if m.wrong != api.OK {
			return 0
		}
		if symbol, ok := r.symbols[text]; ok {
			return symbol
		}
	}
	m.fail(api.ErrCode)
	return 0
}

func (m *model) come(c byte) {
	if m.wrong == api.OK && len(m.out) >= m.limit {
		m.fail(api.ErrOver)
	}
	if m.wrong == api.OK {
		m.out = append(m.out, c)
	}
}

func (m *model) block(kind int) {
	if m.wrong != api.OK {
		return
	}
	switch kind {
	case 0:
		m.stored()
	case 1:
		m.coded(fixedReads())
	case 2:
		symbols, distances := m.header()
		s := m.reads(symbols)
		m.coded(s, m.reads(distances))
	case 3:
		m.fail(api.ErrBlock)
	}
}

func (m *model) stored() {
	for m.at%8 != 0 {
		m.at++
	}
	n := m.get(16)
	if m.get(16) != 65535-n {
		m.fail(api.ErrBlock)
	}
	if len(m.out)+n > m.limit {
		m.fail(api.ErrOver)
	}
	for i := 0; i < n && m.wrong == api.OK; i++ {
		m.come(byte(m.get(8)))
	}
}

// header reads the lengths that a dynamic block begins with.
func (m *model) header() (symbols, distances []int) {
	a, b, c := m.get(5), m.get(5), m.get(4)
	if a+257 > 286 || b+1 > 30 {
		m.fail(api.ErrBlock)
	}
	sizes := make([]int, 19)
	for _, symbol := range lengthOrder()[:c+4] {
		sizes[symbol] = m.get(3)
	}
	code := m.reads(sizes)
	all := a + 257 + b + 1
	var lens []int
	for m.wrong == api.OK && len(lens) < all {
		lens = append(lens, m.several(m.symbol(code), lens)...)
		if len(lens) > all {
			m.fail(api.ErrBlock)
		}
	}
	if m.wrong != api.OK {
		return nil, nil
	}
	if lens[256] == 0 {
		m.fail(api.ErrBlock)
	}
	return lens[:a+257], lens[a+257:]
}

func (m *model) several(symbol int, lens []int) []int {
	switch {
	case symbol < 16:
		return []int{symbol}
	case symbol == 16 && len(lens) == 0:
		m.fail(api.ErrBlock)
		return nil
	case symbol == 16:
		return slices.Repeat(lens[len(lens)-1:], m.get(2)+3)
	case symbol == 17:
		return make([]int, m.get(3)+3)
	}
	return make([]int, m.get(7)+11)
}

// coded reads symbols and distances.
func (m *model) coded(s, d reads) {
	lengths, dists := lengthParts(), distanceParts()
	for m.wrong == api.OK {
		symbol := m.symbol(s)
		if m.wrong != api.OK || symbol == 256 {
			return
		}
		if symbol < 256 {
			m.come(byte(symbol))
			continue
		}
		length := m.parted(symbol-257, lengths)
		dist := m.parted(m.symbol(d), dists)
		if dist > len(m.out) {
			m.fail(api.ErrDist)
		}
		for i := 0; i < length && m.wrong == api.OK; i++ {
			m.come(m.out[len(m.out)-dist])
		}
	}
}

func (m *model) parted(i int, l []part) int {
	if i >= len(l) {
		m.fail(api.ErrBlock)
	}
	if m.wrong != api.OK {
		return 0
	}
	return l[i].base + m.get(l[i].more)
}
