package huff_test

import (
	"cmp"
	"iter"
	"slices"
	"strings"
	"testing"

	"vignette/api"
	"vignette/bits"
	"vignette/huff"
)

// numbers goes on, from one number to the next, through numbers that look as if they came by chance.
type numbers uint64

func (s *numbers) below(n int) int {
	*s = *s*6364136223846793005 + 1442695040888963407
	return int(uint64(*s>>17) % uint64(n))
}

// lists goes through all lists of n numbers from 0 to the most; each is gone with the next one.
func lists(n int, most uint8) iter.Seq[[]uint8] {
	return func(yield func([]uint8) bool) {
		l := make([]uint8, n)
		for {
			if !yield(l) {
				return
			}
			i := 0
			for ; i < n && l[i] == most; i++ {
				l[i] = 0
			}
			if i == n {
				return
			}
			l[i]++
		}
	}
}

// makeCode tells whether lengths make a code, by the chapter's words.
func makeCode(lens []uint8) bool {
	have, sum := 0, 0 // the sum in parts of 2 to the power of 15
	for _, n := range lens {
		if n > 0 {
			have++
			part := 1 << 15
			for range n {
				part /= 2
			}
			sum += part
		}
	}
	return sum == 1<<15 || have == 0 || have == 1 && slices.Max(lens) == 1
}

// texts are the codes of lengths as rows of 0 and 1, the first bit first, by the chapter's words; "" is none.
func texts(lens []uint8) []string {
	var order []int
	for symbol, n := range lens {
		if n > 0 {
			order = append(order, symbol)
		}
	}
	slices.SortStableFunc(order, func(a, b int) int { return cmp.Compare(lens[a], lens[b]) })
	l := make([]string, len(lens))
	ahead := ""
	for _, symbol := range order {
		ahead = plusOne(ahead)
		ahead += strings.Repeat("0", int(lens[symbol])-len(ahead))
		l[symbol] = ahead
	}
	return l
}

// plusOne is the number behind that of a row: from the end on each 1 turns to 0, up to a 0, which turns to 1.
func plusOne(row string) string {
	kept := strings.TrimRight(row, "1")
	if kept == "" {
		return ""
	}
	return kept[:len(kept)-1] + "1" + strings.Repeat("0", len(row)-len(kept))
}

// number is a row whose first bit is lowest.
func number(row string) uint16 {
	v, weight := 0, 1
	for _, bit := range row {
		v += int(bit-'0') * weight
		weight *= 2
	}
	return uint16(v)
}

// packed are a row's bits as bytes.
func packed(t *testing.T, row string) []byte {
	t.Helper()
	var w bits.Writer
	for _, bit := range row {
		if e := w.Put(uint32(bit-'0'), 1); e != api.OK {
			t.Fatal(e)
		}
	}
	return w.Bytes()
}

// at is a reader that stands so many bits ahead of the end of a row, which ends with a byte.
func at(t *testing.T, row string) *bits.Reader {
	t.Helper()
	missing := (8 - len(row)%8) % 8
	r := bits.New(packed(t, strings.Repeat("1", missing)+row))
	if _, e := r.Get(missing); e != api.OK {
		t.Fatal(e)
	}
	return r
}

func mustTable(t *testing.T, lens []uint8) *huff.Table {
	t.Helper()
	x, e := huff.New(lens)
	if e != api.OK || x == nil {
		t.Fatalf("New(%v) is %v, %v", lens, x, e)
	}
	return x
}

func mustCodes(t *testing.T, lens []uint8) []uint16 {
	t.Helper()
	l, e := huff.Codes(lens)
	if e != api.OK || len(l) != len(lens) {
		t.Fatalf("Codes(%v) is %v, %v", lens, l, e)
	}
	return l
}

// noCodes looks at whether both calls answer an error, and nothing with it.
func noCodes(t *testing.T, lens []uint8, want api.Errno) {
	t.Helper()
	if l, e := huff.Codes(lens); e != want || len(l) != 0 {
		t.Errorf("Codes(%v) is %v, %v, not %v", lens, l, e, want)
	}
	if x, e := huff.New(lens); e != want || x != nil {
		t.Errorf("New(%v) is %v, %v, not %v", lens, x, e, want)
	}
}

// wantRead reads one symbol, and looks at how many bits were got.
func wantRead(t *testing.T, x *huff.Table, r *bits.Reader, symbol int, e api.Errno, got int) {
	t.Helper()
	from := r.At()
	if s, err := x.Read(r); s != symbol || err != e || r.At()-from != got {
		t.Fatalf("Read at %d is %d, %v, and got %d bits, not %d, %v, %d", from, s, err, r.At()-from, symbol, e, got)
	}
}

// fixed are the lengths of the fixed code's symbols (RFC 1951, 3.2.6).
func fixed() []uint8 {
	return slices.Concat(slices.Repeat([]uint8{8}, 144), slices.Repeat([]uint8{9}, 112), slices.Repeat([]uint8{7}, 24), slices.Repeat([]uint8{8}, 8))
}

// deepest are lengths of which each is one more than the one ahead, up to the most.
func deepest() []uint8 {
	return []uint8{1, 2, 3, 4, 5, 6, 7, 8, 9, 10, 11, 12, 13, 14, 15, 15}
}

// codes are lengths that make codes of many forms.
func codes(t *testing.T) [][]uint8 {
	t.Helper()
	l := [][]uint8{nil, {0}, {1}, {0, 0, 1, 0}, {1, 1}, {0, 1, 0, 1}, {2, 1, 3, 3}, {3, 3, 3, 3, 3, 2, 4, 4}, fixed(), deepest(), make([]uint8, 320)}
	back := deepest()
	slices.Reverse(back)
	l = append(l, back, slices.Repeat([]uint8{5}, 32), append(make([]uint8, 319), 1), append(make([]uint8, 304), deepest()...))
	for _, n := range []int{2, 3, 10, 50, 320} {
		for _, freq := range shapes(n) {
			for _, limit := range []int{9, 12, 15} {
				l = append(l, mustLengths(t, freq, limit))
			}
		}
	}
	return l
}

// P6.2

func TestCodesOfTheExamples(t *testing.T) {
	for _, x := range []struct {
		lens []uint8
		want []uint16
	}{
		{[]uint8{2, 1, 3, 3}, []uint16{1, 0, 3, 7}},
		{[]uint8{1}, []uint16{0}},
		{[]uint8{0, 0}, []uint16{0, 0}},
		{[]uint8{0, 1, 0}, []uint16{0, 0, 0}},
		{[]uint8{1, 1}, []uint16{0, 1}},
		{nil, nil},
		// 010, 011, 100, 101, 110, 00, 1110, 1111 (RFC 1951, 3.2.2), turned round.
		{[]uint8{3, 3, 3, 3, 3, 2, 4, 4}, []uint16{2, 6, 1, 5, 3, 0, 7, 15}},
	} {
		if got := mustCodes(t, x.lens); !slices.Equal(got, x.want) {
			t.Errorf("Codes(%v) is %v, not %v", x.lens, got, x.want)
		}
	}
	noCodes(t, []uint8{1, 1, 1}, api.ErrCode)
	noCodes(t, []uint8{2}, api.ErrCode)
}

func TestCodesOfTheFixedCode(t *testing.T) {
	l := mustCodes(t, fixed())
	for symbol, want := range map[int]string{0: "00110000", 143: "10111111", 144: "110010000", 255: "111111111", 256: "0000000", 279: "0010111", 280: "11000000", 287: "11000111"} {
		if l[symbol] != number(want) {
			t.Errorf("the code of %d is %b, not %s turned round", symbol, l[symbol], want)
		}
	}
	l = mustCodes(t, deepest())
	if l[13] != 1<<13-1 || l[14] != 1<<14-1 || l[15] != 1<<15-1 {
		t.Errorf("the longest codes are %b", l[13:])
	}
}

func TestCodesOfManyForms(t *testing.T) {
	for _, lens := range codes(t) {
		got := mustCodes(t, lens)
		for symbol, row := range texts(lens) {
			if got[symbol] != number(row) {
				t.Fatalf("of Codes(%v) that of %d is %b, not %q turned round", lens, symbol, got[symbol], row)
			}
		}
	}
}

// TestCodesOfShortLists goes through all short lists, those that make no code, too.
func TestCodesOfShortLists(t *testing.T) {
	made := 0
	for n := range 6 {
		for lens := range lists(n, 5) {
			if !makeCode(lens) {
				noCodes(t, lens, api.ErrCode)
				continue
			}
			made++
			got := mustCodes(t, lens)
			for symbol, row := range texts(lens) {
				if got[symbol] != number(row) {
					t.Fatalf("Codes(%v) is %v", lens, got)
				}
			}
		}
	}
	if made < 100 {
		t.Errorf("%d lists made a code", made)
	}
}

func TestLengthsThatMakeNoCode(t *testing.T) {
	for _, lens := range [][]uint8{{2}, {15}, {0, 3}, {1, 2}, {2, 2}, {1, 1, 1}, {1, 1, 15}, {2, 2, 2}, {2, 2, 2, 2, 2}, {0, 14, 0},
		slices.Repeat([]uint8{1}, 320), slices.Repeat([]uint8{8}, 255), slices.Repeat([]uint8{8}, 257), slices.Repeat([]uint8{15}, 320), fixed()[:287], append(fixed(), 9), deepest()[:15], append(deepest(), 15)} {
		noCodes(t, lens, api.ErrCode)
	}
	for _, lens := range codes(t) {
		for i := range lens {
			spoilt := slices.Clone(lens)
			if spoilt[i] = (spoilt[i] + 1) % 16; !makeCode(spoilt) {
				noCodes(t, spoilt, api.ErrCode)
			} else {
				mustCodes(t, spoilt)
			}
		}
	}
}

func TestCodesRefused(t *testing.T) {
	for _, wrong := range []uint8{16, 17, 31, 32, 64, 128, 255} {
		// What may not be is told ahead of what makes no code.
		for _, lens := range [][]uint8{nil, {0}, {1}, {1, 1}, {1, 1, 1}, {2, 1, 3, 3}, deepest()} {
			noCodes(t, append(slices.Clone(lens), wrong), api.ErrArg)
			noCodes(t, append([]uint8{wrong}, lens...), api.ErrArg)
		}
		noCodes(t, append(slices.Repeat([]uint8{1}, 319), wrong), api.ErrArg)
	}
	for _, n := range []uint8{0, 1, 8, 15, 16} {
		noCodes(t, slices.Repeat([]uint8{n}, 321), api.ErrArg)
	}
	noCodes(t, append(make([]uint8, 319), 1, 1), api.ErrArg)
	noCodes(t, make([]uint8, 1<<16), api.ErrArg)
	mustTable(t, make([]uint8, 320))
	mustTable(t, append(make([]uint8, 318), 1, 1))
}

func TestCodesAreNew(t *testing.T) {
	for _, lens := range codes(t) {
		room := append(slices.Clone(lens), 1, 1, 1)
		l := mustCodes(t, room[:len(lens)])
		kept := slices.Clone(l)
		mustTable(t, room[:len(lens)])
		clear(l[:cap(l)])
		if !slices.Equal(room, append(slices.Clone(lens), 1, 1, 1)) {
			t.Fatalf("what was handed in is now %v", room)
		}
		if again := mustCodes(t, lens); !slices.Equal(again, kept) {
			t.Fatalf("Codes(%v) is %v, and then %v", lens, kept, again)
		}
	}
}

// P6.3

func TestReadOfTheExamples(t *testing.T) {
	x := mustTable(t, []uint8{2, 1, 3, 3})
	r := at(t, "010111")
	wantRead(t, x, r, 1, api.OK, 1)
	wantRead(t, x, r, 0, api.OK, 2)
	wantRead(t, x, r, 3, api.OK, 3)
	wantRead(t, x, r, 0, api.ErrBits, 0)
	wantRead(t, mustTable(t, []uint8{1}), at(t, "1"), 0, api.ErrCode, 1)
	wantRead(t, mustTable(t, []uint8{0}), at(t, "1"), 0, api.ErrCode, 0)
}

// TestReadOfAllCodes reads each code alone, at the row's end and ahead of more bits, and each that ends too soon.
func TestReadOfAllCodes(t *testing.T) {
	for _, lens := range codes(t) {
		x := mustTable(t, lens)
		for symbol, row := range texts(lens) {
			if row == "" {
				continue
			}
			for _, behind := range []string{"", "0", "1", "0101101", "1111111111111111"} {
				wantRead(t, x, at(t, row+behind), symbol, api.OK, len(row))
			}
			for n := range len(row) {
				r := at(t, row[:n])
				wantRead(t, x, r, 0, api.ErrBits, n)
				// What was got stays so.
				wantRead(t, x, r, 0, api.ErrBits, 0)
			}
		}
	}
}

// One code alone is a bit 0: no code begins with a bit 1.
func TestReadOfOneCode(t *testing.T) {
	for _, lens := range [][]uint8{{1}, {0, 1}, {0, 0, 0, 1, 0}, append(make([]uint8, 319), 1)} {
		x := mustTable(t, lens)
		symbol := len(lens) - 1
		for lens[symbol] == 0 {
			symbol--
		}
		r := at(t, "0011010")
		for _, bit := range "0011010" {
			if bit == '0' {
				wantRead(t, x, r, symbol, api.OK, 1)
			} else {
				wantRead(t, x, r, 0, api.ErrCode, 1)
			}
		}
		for range 2 {
			wantRead(t, x, r, 0, api.ErrBits, 0)
		}
	}
}

// Without codes none begins with no bits, either: none is got, and none is missed.
func TestReadOfNoCodes(t *testing.T) {
	for _, lens := range [][]uint8{nil, {}, {0}, make([]uint8, 320)} {
		x := mustTable(t, lens)
		for _, row := range []string{"", "0", "1", "0110"} {
			r := at(t, row)
			for range 3 {
				wantRead(t, x, r, 0, api.ErrCode, 0)
			}
		}
	}
}

func TestReadOfNil(t *testing.T) {
	var none *huff.Table
	r := at(t, "0101")
	for _, x := range []*huff.Table{none, mustTable(t, nil), mustTable(t, []uint8{1}), mustTable(t, deepest())} {
		if s, e := x.Read(nil); s != 0 || e != api.ErrNil {
			t.Errorf("Read of a nil reader is %d, %v", s, e)
		}
	}
	wantRead(t, none, r, 0, api.ErrNil, 0)
	wantRead(t, none, bits.New(nil), 0, api.ErrNil, 0)
	var bare bits.Reader
	wantRead(t, mustTable(t, []uint8{1}), &bare, 0, api.ErrBits, 0)
}

// A table keeps no list that was handed in, and reading does not turn it: several readers may take turns.
func TestTablesStay(t *testing.T) {
	lens := []uint8{2, 1, 3, 3}
	x := mustTable(t, lens)
	copy(lens, []uint8{1, 1, 0, 0})
	other := mustTable(t, lens)
	one, two := at(t, "111011010"), at(t, "101101")
	for _, want := range [][2]int{{3, 1}, {1, 0}, {2, 1}, {0, 1}} {
		wantRead(t, x, one, want[0], api.OK, []int{2, 1, 3, 3}[want[0]])
		wantRead(t, other, two, want[1], api.OK, 1)
	}
	// Two tables on one reader go on, each from where the other one stopped.
	wantRead(t, x, two, 1, api.OK, 1)
	wantRead(t, other, two, 1, api.OK, 1)
	wantRead(t, x, two, 0, api.ErrBits, 0)
}

// P6.4

func TestNoCodeBeginsWithAnother(t *testing.T) {
	for _, lens := range codes(t) {
		l := mustCodes(t, lens)
		for a, n := range lens {
			for b, m := range lens {
				if a != b && n > 0 && m >= n && l[b]&(1<<n-1) == l[a] {
					t.Fatalf("of Codes(%v) that of %d begins with that of %d", lens, b, a)
				}
			}
		}
		for symbol, n := range lens {
			if l[symbol]>>n != 0 {
				t.Fatalf("of Codes(%v) that of %d has more bits than its length", lens, symbol)
			}
		}
	}
}

func TestWhatIsLaidIsRead(t *testing.T) {
	for seed, lens := range codes(t) {
		var with []int
		for symbol, n := range lens {
			if n > 0 {
				with = append(with, symbol)
			}
		}
		if len(with) == 0 {
			continue
		}
		s := numbers(seed)
		l := mustCodes(t, lens)
		var w bits.Writer
		var text []int
		for range 500 {
			symbol := with[s.below(len(with))]
			text = append(text, symbol)
			if e := w.Put(uint32(l[symbol]), int(lens[symbol])); e != api.OK {
				t.Fatal(e)
			}
		}
		x, r := mustTable(t, lens), bits.New(w.Bytes())
		for _, symbol := range text {
			wantRead(t, x, r, symbol, api.OK, int(lens[symbol]))
		}
		if r.At() != w.Len() {
			t.Fatalf("At %d, Len %d", r.At(), w.Len())
		}
	}
}
