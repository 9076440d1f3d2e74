package inflate_test

import (
	"bytes"
	"compress/flate"
	"math"
	"slices"
	"strings"
	"testing"

	"vignette/api"
	"vignette/inflate"
	"vignette/lz"
)

// short is the beginning of bytes that may be many.
func short(b []byte) []byte { return b[:min(len(b), 40)] }

// wantAnswer holds Inflate against an answer, and looks whether what was handed in is as it was.
func wantAnswer(t *testing.T, b []byte, limit int, out []byte, n int, e api.Errno) {
	t.Helper()
	kept := bytes.Clone(b)
	got, read, err := inflate.Inflate(b, limit)
	if !bytes.Equal(got, out) || read != n || err != e {
		t.Fatalf("Inflate(%d bytes %x, %d) is %d bytes %x, %d, %v, not %d bytes %x, %d, %v",
			len(b), short(b), limit, len(got), short(got), read, err, len(out), short(out), n, e)
	}
	if !bytes.Equal(b, kept) {
		t.Fatalf("Inflate(%x, %d) made %x of it", short(kept), limit, short(b))
	}
}

func wantText(t *testing.T, b []byte, limit int, text string, n int) {
	t.Helper()
	wantAnswer(t, b, limit, []byte(text), n, api.OK)
}

func refused(t *testing.T, b []byte, limit int, e api.Errno) {
	t.Helper()
	wantAnswer(t, b, limit, nil, 0, e)
}

// wantModel holds Inflate against the model.
func wantModel(t *testing.T, b []byte, limit int) api.Errno {
	t.Helper()
	out, n, e := inflated(b, limit)
	wantAnswer(t, b, limit, out, n, e)
	return e
}

// wantWhole holds Inflate of a stream that tells these bytes against them, of all that is missing at its end, and of what
// may stand behind it.
func wantWhole(t *testing.T, b, out []byte) {
	t.Helper()
	wantAnswer(t, b, len(out), out, len(b), api.OK)
	wantAnswer(t, b, api.MaxBody, out, len(b), api.OK)
	for _, behind := range []string{"\x00", "\xff", "\x03\x00", "whatever stands behind"} {
		wantAnswer(t, append(bytes.Clone(b), behind...), len(out), out, len(b), api.OK)
	}
	if len(out) > 0 {
		refused(t, b, len(out)-1, api.ErrOver)
	}
	for n := range min(len(b), 300) {
		refused(t, b[:n], len(out), api.ErrBits)
		refused(t, b[:len(b)-1-n], len(out), api.ErrBits)
	}
}

// P8.1

func TestExamples(t *testing.T) {
	stored, fixed := []byte("\x01\x03\x00\xfc\xffabc"), []byte{0x4b, 0x4c, 0x4a, 6, 0}
	wantText(t, stored, api.MaxBody, "abc", 8)
	wantText(t, stored, 3, "abc", 8)
	wantText(t, fixed, api.MaxBody, "abc", 5)
	wantText(t, fixed, 3, "abc", 5)
	refused(t, []byte{0x4b, 4}, 9, api.ErrBits)
	refused(t, []byte("\x01\x03\x00\xfd\xffabc"), 9, api.ErrBlock)
	refused(t, []byte{7}, 9, api.ErrBlock)
	refused(t, nil, 9, api.ErrBits)
	refused(t, []byte{}, 0, api.ErrBits)
	refused(t, fixed, 2, api.ErrOver)
	wantText(t, []byte{3, 0}, 0, "", 2)
	wantText(t, []byte{3, 0}, api.MaxBody, "", 2)
}

func TestLimitThatMayNotBe(t *testing.T) {
	for _, limit := range []int{-1, -2, -256, math.MinInt, api.MaxBody + 1, api.MaxBody + 2, 1 << 32, math.MaxInt} {
		for _, b := range [][]byte{nil, {7}, {3, 0}, {0x4b, 4}, {0x4b, 0x4c, 0x4a, 6, 0}, []byte("\x01\x03\x00\xfc\xffabc")} {
			refused(t, b, limit, api.ErrArg)
		}
	}
}

// TestWhatStandsBehind ends blocks at all bits of a byte.
func TestWhatStandsBehind(t *testing.T) {
	ends := map[int]bool{}
	for n := range 20 {
		text := strings.Repeat("\xff", n)
		var r row
		r.fixed(true, letters(text))
		ends[len(r)%8] = true
		for fill := range 256 {
			all := slices.Clone(r)
			all.put(fill, 8)
			all.put(fill, 8)
			wantText(t, all.bytes(), n, text, (len(r)+7)/8)
		}
	}
	if len(ends) != 8 {
		t.Errorf("blocks end at %v", ends)
	}
}

func TestStoredBlocks(t *testing.T) {
	s := numbers(1)
	for _, n := range []int{0, 1, 2, 3, 255, 256, 257, 32768, 65534, 65535} {
		out := s.noise(n, 256)
		// The block begins at any bit: what fills the byte up plays no part.
		for ahead := range 10 {
			var r row
			text := strings.Repeat("\x90", ahead)
			r.fixed(false, letters(text))
			r.head(true, 0)
			for len(r)%8 != 0 {
				r.put(s.below(2), 1)
			}
			r.put(n, 16)
			r.put(65535-n, 16)
			b := append(r.bytes(), out...)
			wantAnswer(t, b, n+ahead, append([]byte(text), out...), len(b), api.OK)
			if n > 0 {
				refused(t, b[:len(b)-1], n+ahead, api.ErrBits)
				refused(t, b, n+ahead-1, api.ErrOver)
			}
		}
	}
}

func TestStoredBlocksOneBehindTheOther(t *testing.T) {
	var r row
	var all []byte
	for n := range 40 {
		out := bytes.Repeat([]byte{byte(n)}, n*n)
		r.stored(n == 39, out)
		all = append(all, out...)
	}
	wantWhole(t, r.bytes(), all)
	wantText(t, []byte("\x00\x01\x00\xfe\xffx\x01\x01\x00\xfe\xffy"), 9, "xy", 12)
	// Behind the last block nothing is read.
	wantText(t, []byte("\x01\x01\x00\xfe\xffx\x01\x01\x00\xfe\xffy"), 9, "x", 6)
}

func TestStoredBlocksErrors(t *testing.T) {
	good := []byte("\x01\x03\x00\xfc\xffabc")
	for bit := range 32 {
		b := bytes.Clone(good)
		b[1+bit/8] ^= 1 << (bit % 8)
		refused(t, b, 9, api.ErrBlock)
		// The wrong sum is told ahead of what would be too much, and of what is missing.
		refused(t, b, 0, api.ErrBlock)
		refused(t, b[:5], 9, api.ErrBlock)
		refused(t, b[:4], 9, api.ErrBits)
	}
	for n := range 5 {
		refused(t, good[:n], 9, api.ErrBits)
		refused(t, good[:n], 0, api.ErrBits)
	}
	for n := 5; n < 8; n++ {
		refused(t, good[:n], 3, api.ErrBits)
		// As soon as n and m are known, it is too much.
		refused(t, good[:n], 2, api.ErrOver)
		refused(t, good[:n], 0, api.ErrOver)
	}
	// What came in blocks ahead counts, too.
	two := []byte("\x00\x01\x00\xfe\xffx\x01\x02\x00\xfd\xff")
	refused(t, two, 2, api.ErrOver)
	refused(t, two, 3, api.ErrBits)
}

func TestBlocksOfNoType(t *testing.T) {
	for _, first := range []byte{6, 7, 0xfe, 0xff} {
		refused(t, []byte{first}, 9, api.ErrBlock)
		refused(t, []byte{first, 0, 0}, 0, api.ErrBlock)
	}
	for n := range 8 {
		var r row
		r.fixed(false, letters(strings.Repeat("\xff", n)))
		for _, last := range []int{0, 1} {
			whole := append(slices.Clone(r), last, 1, 1)
			refused(t, whole.bytes(), n, api.ErrBlock)
			if len(r)%8 == 6 || len(r)%8 == 7 {
				refused(t, whole.bytes()[:len(r)/8+1], n, api.ErrBits)
			}
		}
	}
}

// TestFixedBytes has all bytes.
func TestFixedBytes(t *testing.T) {
	var all []byte
	for c := range 256 {
		var r row
		r.fixed(true, letters(string([]byte{byte(c)})))
		size := 8
		if c > 143 {
			size = 9
		}
		if len(r) != 3+size+7 {
			t.Fatalf("%d has %d bits", c, len(r))
		}
		wantWhole(t, r.bytes(), []byte{byte(c)})
		all = append(all, byte(c))
	}
	var r row
	r.fixed(false, letters(string(all)))
	r.fixed(true, letters(string(all)))
	wantWhole(t, r.bytes(), slices.Concat(all, all))
}

// TestRepetitions has all lengths, and all distances.
func TestRepetitions(t *testing.T) {
	s := numbers(3)
	ahead := s.noise(32768, 256)
	text := letters(string(ahead))
	want := func(l []api.Token, pick func(int) int) {
		t.Helper()
		var r row
		r.stored(false, ahead)
		r.head(true, 1)
		r.tokens(fixedCoder(), l, pick)
		out, e := lz.Expand(slices.Concat(text, l))
		if e != api.OK {
			t.Fatal(e)
		}
		wantAnswer(t, r.bytes(), len(out), out, (len(r)+7)/8, api.OK)
	}
	var lengths []api.Token
	for n := 3; n <= 258; n++ {
		lengths = append(lengths, rep(n, 1+s.below(32768)))
	}
	want(lengths, latest)
	// 258 is told by 227 and 31, too.
	want(lengths, func(int) int { return 0 })
	for from := 1; from <= 32768; from += 1024 {
		var dists []api.Token
		for dist := from; dist < from+1024; dist++ {
			dists = append(dists, rep(3, dist))
		}
		want(dists, latest)
	}
	var near []api.Token
	for _, p := range distanceParts() {
		for _, dist := range []int{p.base, p.base + 1<<p.more - 1} {
			near = append(near, rep(258, dist), rep(3, dist))
		}
	}
	want(near, latest)
}

// TestRepetitionsIntoThemselves have lengths above their distances.
func TestRepetitionsIntoThemselves(t *testing.T) {
	for dist := 1; dist <= 40; dist++ {
		text := strings.Repeat("abcdefghijklmnopqrstuvwxyz0123456789ABCDEFGH", 20)[:dist]
		for _, n := range []int{3, 4, 10, 11, 39, 40, 41, 257, 258} {
			var r row
			r.fixed(true, told(text, rep(n, dist), "!"))
			want := (text + strings.Repeat(text, n))[:dist+n] + "!"
			wantWhole(t, r.bytes(), []byte(want))
		}
	}
}

// begun is a fixed block that has a text, and then codes of symbols and numbers, but no end.
type begun struct {
	row
	coder
}

func begin(text string) *begun {
	b := &begun{coder: fixedCoder()}
	b.head(true, 1)
	for _, c := range []byte(text) {
		b.code(b.symbols[c])
	}
	return b
}

// symbol lays a symbol, and a number of n bits behind it.
func (b *begun) symbol(symbol, v, n int) *begun {
	b.code(b.symbols[symbol])
	b.put(v, n)
	return b
}

// dist lays a symbol of a distance, and a number of n bits behind it.
func (b *begun) dist(symbol, v, n int) *begun {
	b.code(b.distances[symbol])
	b.put(v, n)
	return b
}

// wantError holds Inflate against an error that is told of what was laid so far, whatever stands behind.
func (b *begun) wantError(t *testing.T, limit int, e api.Errno) {
	t.Helper()
	refused(t, b.bytes(), limit, e)
	if e != api.ErrBits {
		refused(t, append(b.bytes(), 0, 0, 0, 0), limit, e)
		refused(t, append(b.bytes(), 255, 255, 255, 255), limit, e)
	}
}

func TestSymbolsThatThereAreNot(t *testing.T) {
	for _, text := range []string{"", "a", "abc"} {
		for _, symbol := range []int{286, 287} {
			begin(text).symbol(symbol, 0, 0).wantError(t, 9, api.ErrBlock)
			begin(text).symbol(symbol, 0, 0).wantError(t, len(text), api.ErrBlock)
		}
		for _, dist := range []int{30, 31} {
			// It is told ahead of what reaches too far ahead, and of what is too much.
			begin(text).symbol(257, 0, 0).dist(dist, 0, 0).wantError(t, 9, api.ErrBlock)
			begin(text).symbol(284, 31, 5).dist(dist, 0, 0).wantError(t, len(text), api.ErrBlock)
		}
	}
}

func TestRepetitionsThatReachAhead(t *testing.T) {
	begin("").symbol(257, 0, 0).dist(0, 0, 0).wantError(t, 9, api.ErrDist)
	begin("").symbol(257, 0, 0).dist(29, 8191, 13).wantError(t, 9, api.ErrDist)
	for n := 1; n <= 40; n++ {
		text := strings.Repeat("x", n)
		for _, dist := range []int{n + 1, n + 2, 2*n + 1, 24576, 32767, 32768} {
			parts := distanceParts()
			i := partsOf(dist, parts)[0]
			far := begin(text).symbol(257, 0, 0).dist(i, dist-parts[i].base, parts[i].more)
			far.wantError(t, api.MaxBody, api.ErrDist)
			// Of what reaches ahead nothing comes: that is told ahead of what is too much.
			far.wantError(t, n, api.ErrDist)
		}
		var r row
		r.fixed(true, told(text, rep(3, n)))
		wantWhole(t, r.bytes(), []byte(text+"xxx"))
	}
	// Bytes of blocks ahead are reached.
	var r row
	r.stored(false, []byte("abc"))
	r.fixed(false, told(rep(3, 3)))
	r.dynamic(true, told(rep(4, 6)), new(numbers))
	wantWhole(t, r.bytes(), []byte("abcabcabca"))
}

// TestErrorsInOrder has more than one thing wrong: what is read first is told.
func TestErrorsInOrder(t *testing.T) {
	// A byte more than the limit is told as soon as its code is read, a repetition as soon as its distance is.
	begin("abc").wantError(t, 2, api.ErrOver)
	begin("abc").wantError(t, 0, api.ErrOver)
	begin("\xc0\xc0\xc0").symbol(257, 0, 0).wantError(t, 3, api.ErrBits)
	begin("abc").symbol(257, 0, 0).dist(0, 0, 0).wantError(t, 5, api.ErrOver)
	begin("abc").symbol(257, 0, 0).dist(0, 0, 0).wantError(t, 3, api.ErrOver)
	begin("abc").symbol(285, 0, 0).dist(2, 0, 0).wantError(t, 260, api.ErrOver)
	begin("abc").symbol(285, 0, 0).dist(3, 0, 0).wantError(t, 260, api.ErrDist)
	wantText(t, begin("abc").symbol(257, 0, 0).dist(0, 0, 0).symbol(256, 0, 0).bytes(), 6, "abcccc", 6)
	// Bits that are missing are told ahead of what they would tell.
	for n := range 8 {
		text := strings.Repeat("\xff", n)
		far := begin(text).symbol(257, 0, 0).dist(29, 8191, 13).row
		for size := 3 + 9*n; size/8 < len(far)/8; size += 8 {
			refused(t, far.bytes()[:size/8], 99, api.ErrBits)
		}
	}
}

// dynamicOf is a dynamic block that begins with such lengths, told one by one, and has these codes behind them.
func dynamicOf(symbols, distances []int, codes ...string) row {
	var r row
	r.lengths(true, symbols, distances, plain(slices.Concat(symbols, distances)))
	for _, c := range codes {
		r.code(c)
	}
	return r
}

// lens are n lengths: these ones, by their symbols, and else 0.
func lens(n int, of map[int]int) []int {
	l := make([]int, n)
	for symbol, size := range of {
		l[symbol] = size
	}
	return l
}

func TestDynamicBlocks(t *testing.T) {
	ab := lens(258, map[int]int{'a': 2, 'b': 2, 256: 2, 257: 2})
	codes, _ := codesOf(ab)
	a, b, end, three := codes['a'], codes['b'], codes[256], codes[257]
	r := dynamicOf(ab, []int{1, 1}, a, b, three, "1", three, "0", end)
	wantWhole(t, r.bytes(), []byte("ababaaaa"))
	// One distance alone has one bit, 0.
	r = dynamicOf(ab, []int{0, 1}, a, b, three, "0", end)
	wantWhole(t, r.bytes(), []byte("ababa"))
	r = dynamicOf(ab, []int{0, 1}, a, b, three, "1")
	refused(t, r.bytes(), 9, api.ErrCode)
	// Without distances there may be bytes.
	for n := 1; n <= 30; n++ {
		r = dynamicOf(ab, make([]int, n), a, b, b, a, end)
		wantWhole(t, r.bytes(), []byte("abba"))
		r = dynamicOf(ab, make([]int, n), a, b, three)
		refused(t, r.bytes(), 9, api.ErrCode)
	}
	// The end alone has one bit, 0; there may be no other one.
	for n := 257; n <= 286; n++ {
		r = dynamicOf(lens(n, map[int]int{256: 1}), []int{0}, "0")
		wantWhole(t, r.bytes(), nil)
		r = dynamicOf(lens(n, map[int]int{256: 1}), []int{0}, "1")
		refused(t, r.bytes(), 9, api.ErrCode)
	}
}

// TestDynamicBlocksOfAllSizes has all numbers of lengths, and codes of up to 15 bits.
func TestDynamicBlocksOfAllSizes(t *testing.T) {
	for n := range 30 {
		symbols := lens(257+n, map[int]int{0: 15, 256: 15})
		for i := 1; i <= 14; i++ {
			symbols[7*i] = i
		}
		distances := make([]int, n+1)
		for i := range min(n, 15) {
			distances[i] = i + 1
		}
		distances[n] = min(n, 15)
		codes, _ := codesOf(symbols)
		r := dynamicOf(symbols, distances, codes[7], codes[98], codes[14], codes[0], codes[256])
		wantWhole(t, r.bytes(), []byte{7, 98, 14, 0})
	}
}

func TestDynamicBlocksNumbers(t *testing.T) {
	for a := range 32 {
		for b := range 32 {
			for c := range 16 {
				var r row
				r.head(true, 2)
				r.put(a, 5)
				r.put(b, 5)
				// There are 13 bits so far: c is not there whole.
				refused(t, r.bytes()[:1], 9, api.ErrBits)
				r.put(c, 4)
				whole := r.bytes()
				refused(t, whole[:2], 9, api.ErrBits)
				want := api.ErrBits
				if a > 29 || b > 29 {
					want = api.ErrBlock
				}
				refused(t, whole, 9, want)
			}
		}
	}
}

// TestLengthsCode has lengths of the lengths' code that make none, and codes with symbols of any kind.
func TestLengthsCode(t *testing.T) {
	for _, sizes := range [][]int{{0: 2}, {0: 1, 1: 2}, {0: 1, 1: 1, 2: 1}, {18: 7}, slices.Repeat([]int{4}, 19), slices.Repeat([]int{7}, 19)} {
		sizes = append(slices.Clone(sizes), make([]int, 19-len(sizes))...)
		var r row
		r.head(true, 2)
		r.sizes(257, 1, sizes)
		refused(t, r.bytes(), 9, api.ErrCode)
		refused(t, append(r.bytes(), 0, 0, 0, 0), 9, api.ErrCode)
	}
	// Without a code no symbol is read.
	var r row
	r.head(true, 2)
	r.sizes(257, 1, make([]int, 19))
	refused(t, append(r.bytes(), 0, 0, 0), 9, api.ErrCode)
	// One symbol alone has one bit.
	for symbol := range 19 {
		var r row
		r.head(true, 2)
		r.sizes(257, 1, lens(19, map[int]int{symbol: 1}))
		r.code("1")
		refused(t, r.bytes(), 9, api.ErrCode)
	}
	// All numbers of lengths that there may be.
	order := lengthOrder()
	for n := 4; n <= 19; n++ {
		var r row
		r.head(true, 2)
		r.sizes(286, 30, lens(19, map[int]int{order[0]: 1, order[n-1]: 1}))
		wantModel(t, r.bytes(), 9)
		for fill := range 256 {
			wantModel(t, append(r.bytes(), bytes.Repeat([]byte{byte(fill)}, 60)...), 9)
		}
	}
}

// headed is a dynamic block of so many lengths, which these pieces tell.
func headed(symbols, distances int, l []piece) row {
	sizes := sizesFor(l, func() int { return 1 })
	var r row
	r.head(true, 2)
	r.sizes(symbols, distances, sizes)
	r.pieces(sizes, l)
	return r
}

// zeros is so many lengths 0.
func zeros(n int) []piece {
	var l []piece
	for ; n >= 11; n -= min(n, 138) {
		l = append(l, piece{18, min(n, 138) - 11, 7})
	}
	return append(l, plain(make([]int, n))...)
}

func TestLengthsTold(t *testing.T) {
	// The symbols 255 and 256 of 1 bit each; then distances: the length ahead goes on from the symbols to them.
	l := append(zeros(255), piece{symbol: 1}, piece{symbol: 1}, piece{symbol: 1}, piece{symbol: 1})
	r := headed(257, 2, l)
	r.code("0")
	r.code("1")
	wantWhole(t, r.bytes(), []byte{255})
	// The symbols 250 to 257 of 3 bits each, six of them by one number.
	l = append(zeros(250), piece{symbol: 3}, piece{16, 3, 2}, piece{symbol: 3}, piece{symbol: 0}, piece{symbol: 0})
	r = headed(258, 2, l)
	r.code("000")
	r.code("101")
	r.code("110")
	wantWhole(t, r.bytes(), []byte{250, 255})
	// As many times as are missing, across the border, and once more.
	for more := range 4 {
		for missing := range 7 {
			l := append(zeros(257), piece{symbol: 1}, piece{16, more, 2})
			r := headed(258, 1+missing, l)
			if more+3 > missing+1 {
				refused(t, r.bytes(), 9, api.ErrBlock)
			} else {
				wantModel(t, r.bytes(), 9)
				wantModel(t, append(r.bytes(), 0, 0, 0, 0), 9)
			}
		}
	}
	for missing := 1; missing <= 30; missing++ {
		for _, p := range []piece{{17, 0, 3}, {17, 7, 3}, {18, 0, 7}, {18, 19, 7}, {18, 127, 7}} {
			many := p.v + map[int]int{17: 3, 18: 11}[p.symbol]
			r := headed(257, missing, append(zeros(256), piece{symbol: 1}, p))
			switch {
			case many > missing:
				refused(t, r.bytes(), 9, api.ErrBlock)
			case many == missing:
				r.code("0")
				wantWhole(t, r.bytes(), nil)
			default:
				refused(t, r.bytes(), 9, api.ErrBits)
			}
		}
	}
}

func TestLengthsErrors(t *testing.T) {
	// There is no length ahead of the first one: that is known as soon as the symbol is, though no bits are left.
	var first row
	first.head(true, 2)
	sizes := lens(19, map[int]int{0: 1, 17: 2, 16: 3, 18: 3})
	first.sizes(257, 1, sizes)
	first.pieces(sizes, []piece{{symbol: 16}})
	if len(first) != 32 {
		t.Errorf("%d bits", len(first))
	}
	refused(t, first.bytes(), 9, api.ErrBlock)
	refused(t, append(first.bytes(), 0, 0, 0), 9, api.ErrBlock)
	// The length ahead may be one of zeros.
	r := headed(257, 1, append([]piece{{17, 0, 3}, {16, 3, 2}}, append(zeros(256-9), piece{symbol: 1}, piece{symbol: 0})...))
	r.code("0")
	wantWhole(t, r.bytes(), nil)
	// 256 must have a length, whatever the others are.
	for _, l := range [][]int{lens(286, nil), lens(257, map[int]int{0: 1}), lens(286, map[int]int{0: 1, 257: 1}), lens(257, map[int]int{0: 1, 1: 1}), lens(257, map[int]int{0: 2}), lens(257, map[int]int{0: 1, 1: 1, 2: 1})} {
		for _, d := range [][]int{{0}, {1}, {1, 1}, {2}, {1, 1, 1}} {
			refused(t, append(dynamicOf(l, d).bytes(), 0, 0, 0), 9, api.ErrBlock)
			refused(t, dynamicOf(l, d).bytes(), 9, api.ErrBlock)
		}
	}
	// Symbols that make no code; distances that make none.
	for _, of := range []map[int]int{{256: 2}, {256: 15}, {256: 1, 0: 2}, {256: 1, 0: 1, 1: 15}, {256: 1, 0: 1, 1: 1}} {
		for _, d := range [][]int{{0}, {1}, {1, 1}, {3}} {
			refused(t, dynamicOf(lens(257, of), d).bytes(), 9, api.ErrCode)
		}
	}
	for _, d := range [][]int{{2}, {0, 15}, {1, 2}, {1, 1, 15}, {1, 1, 1}, slices.Repeat([]int{4}, 17), slices.Repeat([]int{5}, 30)} {
		refused(t, dynamicOf(lens(257, map[int]int{256: 1}), d, "0").bytes(), 9, api.ErrCode)
		refused(t, dynamicOf(lens(258, map[int]int{256: 1, 257: 1}), d, "0").bytes(), 9, api.ErrCode)
	}
}

// TestWhatIsHandedOut writes to what was handed in and out: no later answer shows it.
func TestWhatIsHandedOut(t *testing.T) {
	for _, b := range [][]byte{[]byte("\x01\x03\x00\xfc\xffabc"), {0x4b, 0x4c, 0x4a, 6, 0}} {
		in := append(bytes.Clone(b), 1, 2, 3)
		first, _, _ := inflate.Inflate(in[:len(b)], 9)
		second, _, _ := inflate.Inflate(in[:len(b)], 9)
		for i := range first[:cap(first)] {
			first[:cap(first)][i] = 'x'
		}
		if !bytes.Equal(in, append(bytes.Clone(b), 1, 2, 3)) || string(second) != "abc" {
			t.Errorf("%x, %q", in, second)
		}
		clear(in)
		if string(second) != "abc" {
			t.Errorf("%q", second)
		}
		wantText(t, b, 9, "abc", len(b))
	}
}

// P8.2

// TestAllShortStreams are all of up to two bytes, and many that are longer.
func TestAllShortStreams(t *testing.T) {
	wantModel(t, nil, 9)
	for x := range 256 {
		wantModel(t, []byte{byte(x)}, 9)
		for y := range 256 {
			wantModel(t, []byte{byte(x), byte(y)}, 9)
		}
	}
	s := numbers(5)
	for n := 3; n < 40; n++ {
		for range 200 {
			b := s.noise(n, 256)
			wantModel(t, b, s.below(n))
			b[0] = b[0]&^7 | byte(2*s.below(6))
			wantModel(t, b, s.below(n))
		}
	}
}

// spoilt changes bytes a little.
func (s *numbers) spoilt(b []byte) []byte {
	b = bytes.Clone(b)
	for range 1 + s.below(3) {
		switch at := s.below(len(b)); s.below(4) {
		case 0:
			b[at] = byte(s.below(256))
		case 1:
			b = b[:at+1]
		case 2:
			b = slices.Delete(b, at, min(len(b)-1, at+1+s.below(4)))
		default:
			b[at] ^= 1 << s.below(8)
		}
		if len(b) == 0 {
			return []byte{0}
		}
	}
	return b
}

// TestSpoiltStreams holds streams, each bit of which was turned, and others that were changed at several places, against
// the model.
func TestSpoiltStreams(t *testing.T) {
	met := map[api.Errno]int{}
	s := numbers(7)
	for seed := range 30 {
		var r row
		out := r.blocks(s.tokens(1+seed%20, 0), &s)
		b := r.bytes()
		for bit := range min(8*len(b), 1000) {
			turned := bytes.Clone(b)
			turned[bit/8] ^= 1 << (bit % 8)
			met[wantModel(t, turned, len(out))]++
		}
		for range 150 {
			met[wantModel(t, s.spoilt(b), s.below(2*len(out)+2))]++
		}
	}
	for _, e := range []api.Errno{api.OK, api.ErrBits, api.ErrCode, api.ErrBlock, api.ErrDist, api.ErrOver} {
		if met[e] < 50 {
			t.Errorf("%v was met %d times", e, met[e])
		}
	}
}

// TestNoMoreThanTheLimit goes through all limits.
func TestNoMoreThanTheLimit(t *testing.T) {
	s := numbers(11)
	for range 20 {
		var r row
		out := r.blocks(s.tokens(12, 0), &s)
		b := r.bytes()
		for limit := range len(out) {
			refused(t, b, limit, api.ErrOver)
		}
		wantAnswer(t, b, len(out), out, len(b), api.OK)
		wantAnswer(t, b, len(out)+1, out, len(b), api.OK)
	}
}

// TestMostBytes has just as many bytes as there may be, and one more.
func TestMostBytes(t *testing.T) {
	s := numbers(13)
	for _, more := range []int{0, 1} {
		var stored, fixed row
		all := s.noise(api.MaxBody+more, 256)
		for rest := all; len(rest) > 0; {
			n := min(len(rest), 65535)
			stored.stored(n == len(rest), rest[:n])
			rest = rest[n:]
		}
		like := letters("a")
		for n := api.MaxBody + more - 1; n > 0; n -= min(n, 258) {
			if n < 3 {
				like = append(like, letters("aa"[:n])...)
			} else {
				like = append(like, rep(min(n, 258), 1))
			}
		}
		fixed.fixed(true, like)
		if more == 1 {
			refused(t, stored.bytes(), api.MaxBody, api.ErrOver)
			refused(t, fixed.bytes(), api.MaxBody, api.ErrOver)
			continue
		}
		wantAnswer(t, stored.bytes(), api.MaxBody, all, len(stored)/8, api.OK)
		wantAnswer(t, fixed.bytes(), api.MaxBody, bytes.Repeat([]byte("a"), api.MaxBody), (len(fixed)+7)/8, api.OK)
		refused(t, stored.bytes(), api.MaxBody-1, api.ErrOver)
		refused(t, fixed.bytes(), api.MaxBody-1, api.ErrOver)
	}
}

// TestManyBlocks has many blocks of which no bytes come.
func TestManyBlocks(t *testing.T) {
	var stored, fixed, dynamic row
	for range 20000 {
		stored.stored(false, nil)
		fixed.fixed(false, nil)
	}
	end := lens(257, map[int]int{256: 1})
	for range 1000 {
		dynamic.lengths(false, end, []int{0}, append(zeros(256), piece{symbol: 1}, piece{symbol: 0}))
		dynamic.code("0")
	}
	for _, r := range []row{stored, fixed, dynamic} {
		refused(t, r.bytes()[:len(r)/8], 0, api.ErrBits)
		r.fixed(true, letters("a"))
		wantText(t, r.bytes(), 1, "a", (len(r)+7)/8)
		refused(t, r.bytes(), 0, api.ErrOver)
	}
}

// P8.3

// TestTokensComeBack lays tokens as blocks of all types, as if by chance.
func TestTokensComeBack(t *testing.T) {
	s := numbers(17)
	for n := range 150 {
		l := s.tokens(n*n/15, 0)
		var r row
		out := r.blocks(l, &s)
		b := r.bytes()
		if n%15 == 0 {
			wantWhole(t, b, out)
		}
		behind := s.noise(s.below(9), 256)
		wantAnswer(t, append(b, behind...), len(out)+s.below(9), out, (len(r)+7)/8, api.OK)
	}
}

// TestMatchesComeBack lays what lz finds.
func TestMatchesComeBack(t *testing.T) {
	s := numbers(19)
	for _, n := range []int{0, 1, 2, 3, 10, 1000, 40000} {
		for _, letters := range []int{1, 2, 5, 256} {
			text := s.noise(n, letters)
			var r row
			if out := r.blocks(lz.Match(text), &s); !bytes.Equal(out, text) {
				t.Fatal("what was laid is something else")
			}
			wantAnswer(t, r.bytes(), n, text, (len(r)+7)/8, api.OK)
		}
	}
}

// TestStreamsOfOthers reads streams that another program laid, at all its levels, also with ends between.
func TestStreamsOfOthers(t *testing.T) {
	s := numbers(23)
	texts := [][]byte{nil, []byte("a"), []byte("abcabcabcabcabcd"), bytes.Repeat([]byte("vignette "), 9000), make([]byte, 300000), s.noise(100000, 256), s.noise(100000, 4)}
	for _, n := range []int{5, 500, 3000} {
		out, e := lz.Expand(s.tokens(n, 0))
		if e != api.OK {
			t.Fatal(e)
		}
		texts = append(texts, out)
	}
	for level := flate.HuffmanOnly; level <= flate.BestCompression; level++ {
		for _, text := range texts {
			for _, flush := range []bool{false, true} {
				b := laid(t, text, level, flush)
				wantAnswer(t, append(b, "behind"...), len(text), text, len(b), api.OK)
				refused(t, b[:len(b)-1], len(text), api.ErrBits)
				if len(text) > 0 {
					refused(t, b, len(text)-1, api.ErrOver)
				}
			}
		}
	}
}

// laid is a stream of the library's.
func laid(t *testing.T, text []byte, level int, flush bool) []byte {
	t.Helper()
	var out bytes.Buffer
	w, err := flate.NewWriter(&out, level)
	if err != nil {
		t.Fatal(err)
	}
	parts := [][]byte{text}
	if flush {
		parts = [][]byte{text[:len(text)/3], text[len(text)/3:]}
	}
	for _, p := range parts {
		w.Write(p)
		if flush {
			w.Flush()
		}
	}
	if err := w.Close(); err != nil {
		t.Fatal(err)
	}
	return out.Bytes()
}
