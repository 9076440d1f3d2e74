package lz_test

import (
	"bytes"
	"math"
	"slices"
	"strings"
	"testing"

	"vignette/api"
	"vignette/lz"
)

// numbers goes on, from one number to the next, through numbers that look as if they came by chance.
type numbers uint64

func (s *numbers) below(n int) int {
	*s = *s*6364136223846793005 + 1442695040888963407
	return int(uint64(*s>>17) % uint64(n))
}

// noise is so many bytes of so many letters, as if by chance.
func (s *numbers) noise(n, letters int) []byte {
	b := make([]byte, n)
	for i := range b {
		b[i] = byte(s.below(letters))
	}
	return b
}

// patches is bytes, many of which stood ahead already, at any distance and for any length.
func (s *numbers) patches(n int) []byte {
	b := s.noise(1, 256)
	for len(b) < n {
		if s.below(3) == 0 {
			b = append(b, s.noise(1+s.below(8), 256)...)
			continue
		}
		from := s.below(len(b))
		for range 1 + s.below(400) {
			b = append(b, b[from])
			from++
		}
	}
	return b[:n]
}

// matched is the match of bytes at a place, of a distance, by the chapter's words.
func matched(b []byte, at, dist int) int {
	n := 0
	for n < 258 && at+n < len(b) && b[at+n] == b[at+n-dist] {
		n++
	}
	return n
}

// tokens are those of bytes, by the chapter's words: each distance is tried at each place.
func tokens(b []byte) []api.Token {
	var l []api.Token
	for at := 0; at < len(b); {
		t := api.Token{Byte: b[at]}
		for dist := 1; dist <= 32768 && dist <= at; dist++ {
			if n := matched(b, at, dist); n >= 3 && n > t.Len {
				t = api.Token{Len: n, Dist: dist}
			}
		}
		l = append(l, t)
		at += max(1, t.Len)
	}
	return l
}

// letters are the tokens of single bytes.
func letters(b []byte) []api.Token {
	var l []api.Token
	for _, c := range b {
		l = append(l, api.Token{Byte: c})
	}
	return l
}

// rep is a repetition.
func rep(size, dist int) api.Token { return api.Token{Len: size, Dist: dist} }

// told is tokens as lists one behind the other.
func told(parts ...any) []api.Token {
	var l []api.Token
	for _, p := range parts {
		switch x := p.(type) {
		case string:
			l = append(l, letters([]byte(x))...)
		case []byte:
			l = append(l, letters(x)...)
		case api.Token:
			l = append(l, x)
		}
	}
	return l
}

// wantTokens holds Match against tokens.
func wantTokens(t *testing.T, name string, b []byte, want []api.Token) {
	t.Helper()
	got := lz.Match(b)
	if slices.Equal(got, want) {
		return
	}
	at := 0
	for i := range max(len(got), len(want)) {
		if i >= len(got) || i >= len(want) || got[i] != want[i] {
			t.Fatalf("%s: Match: %d tokens, want %d; token %d, at %d, differs: %v, want %v", name, len(got), len(want), i, at,
				got[min(i, len(got)):min(i+1, len(got))], want[min(i, len(want)):min(i+1, len(want))])
		}
		at += max(1, got[i].Len)
	}
}

// P7.1

func TestMatchExamples(t *testing.T) {
	for _, c := range []struct {
		b    string
		want []api.Token
	}{
		{"", nil},
		{"a", told("a")},
		{"aa", told("aa")},
		{"aaa", told("aaa")},
		{"aaaa", told("a", rep(3, 1))},
		{"aaaaa", told("a", rep(4, 1))},
		{"abab", told("abab")},
		{"ababa", told("ab", rep(3, 2))},
		{"abcabcabcd", told("abc", rep(6, 3), "d")},
		{"abcxabc", told("abcx", rep(3, 4))},
		{"abcxabcx", told("abcx", rep(4, 4))},
		{"abxaby", told("abxaby")},
		// of several of one length, that of the least distance
		{"abc1abc2abc", told("abc1", rep(3, 4), "2", rep(3, 4))},
		{"abcd1abc2abcd", told("abcd1", rep(3, 5), "2", rep(4, 9))},
		{"abcd1abcd2abce3abcd", told("abcd1", rep(4, 5), "2", rep(3, 5), "e3", rep(4, 10))},
		// what begins within a repetition counts, too
		{"abcdabcdabxcdab!", told("abcd", rep(6, 4), "x", rep(4, 5), "!")},
		// the longest one is taken at once, though a longer one begins at the next byte
		{"abc.bcdefgh.abcdefgh", told("abc.bcdefgh.", rep(3, 12), rep(5, 9))},
	} {
		wantTokens(t, c.b, []byte(c.b), c.want)
	}
}

func TestMatchOfAllShortTexts(t *testing.T) {
	for _, c := range []struct{ letters, most int }{{2, 13}, {3, 8}, {4, 6}} {
		for n := range c.most + 1 {
			b := make([]byte, n)
			for {
				wantTokens(t, "short", b, tokens(b))
				i := 0
				for ; i < n && b[i] == byte(c.letters-1); i++ {
					b[i] = 0
				}
				if i == n {
					break
				}
				b[i]++
			}
		}
	}
}

func TestMatchOfChance(t *testing.T) {
	s := numbers(71)
	for range 300 {
		b := s.noise(s.below(600), 1+s.below(6))
		wantTokens(t, "noise", b, tokens(b))
	}
	for range 100 {
		b := s.patches(1 + s.below(3000))
		wantTokens(t, "patches", b, tokens(b))
	}
}

func TestMatchOfFewOthers(t *testing.T) {
	s := numbers(72)
	for range 60 {
		b := make([]byte, s.below(4000))
		gap := 2 + s.below(300)
		for i := s.below(gap); i < len(b); i += 1 + s.below(gap) {
			b[i] = byte(s.below(3))
		}
		wantTokens(t, "few others", b, tokens(b))
	}
}

func TestMatchFarBack(t *testing.T) {
	s := numbers(73)
	for _, b := range [][]byte{s.noise(34000, 200), s.patches(70000), append(s.noise(33000, 256), s.patches(10000)...)} {
		wantTokens(t, "far back", b, tokens(b))
	}
}

func TestMatchLengths(t *testing.T) {
	for n := 3; n < 800; n++ {
		part := spread(n)
		want := told(part, "\xff\xfe\xfd")
		left := n
		for ; left >= 3; left -= min(left, 258) {
			want = append(want, rep(min(left, 258), n+3))
		}
		wantTokens(t, "twice", slices.Concat(part, []byte("\xff\xfe\xfd"), part), append(want, letters(part[n-left:])...))
	}
}

// spread is bytes none of whose threes stands there twice: no match begins within them.
func spread(n int) []byte {
	b := make([]byte, 0, n+3)
	for i := 0; len(b) < n; i++ {
		b = append(b, byte(i%120), byte(120+i/120%120), 250+byte(i/14400))
	}
	return b[:n]
}

func TestMatchDistances(t *testing.T) {
	if got := lz.Match(spread(43000)); !slices.Equal(got, letters(spread(43000))) {
		t.Fatalf("something stands twice in what is all different")
	}
	for _, c := range []struct {
		dist  int
		taken bool
	}{{32766, true}, {32767, true}, {32768, true}, {32769, false}, {32770, false}, {40000, false}} {
		between := spread(c.dist - 3)
		b := slices.Concat([]byte{255, 255, 254}, between, []byte{255, 255, 254})
		want := told([]byte{255, 255, 254}, between, rep(3, c.dist))
		if !c.taken {
			want = letters(b)
		}
		wantTokens(t, "at a distance", b, want)
	}
}

func TestMatchDistancesAroundGreatNumbers(t *testing.T) {
	// distances that would be small ones again, if they were kept in 16 bits
	for _, dist := range []int{65535, 65536, 65537, 65539, 65540, 66000, 131072 + 5} {
		b := slices.Concat([]byte("abcdefgh"), make([]byte, dist-8), []byte("abcdefgh"))
		got := lz.Match(b)
		if end := got[len(got)-8:]; !slices.Equal(end, letters([]byte("abcdefgh"))) {
			t.Errorf("%d: %v", dist, end)
		}
	}
}

func TestMatchFurtherIsLonger(t *testing.T) {
	// the longer one is the furthest that may be; one byte further, it is not seen
	long, short := []byte{251, 255, 255, 255, 254, 255, 253, 255}, []byte{251, 255, 255, 255, 254, 255, 253, 254}
	for _, c := range []struct {
		dist int
		want []api.Token
	}{{32768, told(rep(8, 32768))}, {32769, told(rep(7, 30000), "\xff")}} {
		b := spread(c.dist)
		copy(b, long)
		copy(b[c.dist-30000:], short)
		b[c.dist-1] = 240 // which stands nowhere else: no match begins ahead of the long one
		ahead := lz.Match(b)
		wantTokens(t, "further", append(b, long...), append(ahead, c.want...))
	}
}

func TestMatchChangesAndKeepsNothing(t *testing.T) {
	s := numbers(76)
	room := s.patches(2000)
	b := room[:1500]
	was := slices.Clone(room)
	first := lz.Match(b)
	kept := slices.Clone(first)
	if !bytes.Equal(room, was) {
		t.Fatal("the bytes, or the room behind them, were changed")
	}
	second := lz.Match(b)
	for i := range first[:cap(first)] {
		first[:cap(first)][i] = api.Token{Byte: 9, Len: 9, Dist: 9}
	}
	clear(room)
	if !slices.Equal(second, kept) {
		t.Error("one answer shows in another one")
	}
	if !slices.Equal(lz.Match(was[:1500]), kept) {
		t.Error("the same bytes, another answer")
	}
}

// P7.2

func TestExpand(t *testing.T) {
	for _, c := range []struct {
		l    []api.Token
		want string
	}{
		{nil, ""},
		{[]api.Token{}, ""},
		{told("a"), "a"},
		{told("a", rep(3, 1)), "aaaa"},
		{told("ab", rep(3, 2)), "ababa"},
		{told("ab", rep(3, 2), "c", rep(4, 6)), "ababacabab"},
		{told("ab", rep(4, 1), rep(3, 6)), "abbbbbabb"},
		{told("abc", rep(3, 3)), "abcabc"},
		{told("a", rep(258, 1)), "a" + strings.Repeat("a", 258)},
		{told("xyz", rep(258, 3)), "xyz" + strings.Repeat("xyz", 86)},
		{[]api.Token{{}}, "\x00"},
		{[]api.Token{{Byte: 255}}, "\xff"},
		{told("aaaaaa"), "aaaaaa"}, // what is told need not be the shortest way
	} {
		b, err := lz.Expand(c.l)
		if err != api.OK || string(b) != c.want {
			t.Errorf("Expand(%v) = %q, %v; want %q", c.l, b, err, c.want)
		}
	}
}

func TestExpandDistances(t *testing.T) {
	ahead := spread(33000)
	for _, dist := range []int{1, 2, 257, 258, 259, 32767, 32768} {
		b, err := lz.Expand(told(ahead, rep(5, dist)))
		want := slices.Clone(ahead)
		for range 5 {
			want = append(want, want[len(want)-dist])
		}
		if err != api.OK || !bytes.Equal(b, want) {
			t.Errorf("%d ahead: %d bytes, %v", dist, len(b), err)
		}
	}
}

// refused tells that Expand answers an error, and no bytes.
func refused(t *testing.T, l []api.Token, want api.Errno) {
	t.Helper()
	b, err := lz.Expand(l)
	if err != want || len(b) != 0 {
		t.Errorf("%d tokens, the last ones %v: %d bytes, %v; want %v", len(l), l[max(0, len(l)-3):], len(b), err, want)
	}
}

func TestExpandTokensThatAreNone(t *testing.T) {
	ahead := letters(spread(33000))
	for _, x := range []api.Token{
		rep(1, 1), rep(2, 1), rep(259, 1), rep(-1, 1), rep(-3, 1), rep(math.MaxInt, 1), rep(math.MinInt, 1), rep(1<<32+3, 1),
		rep(3, 0), rep(3, -1), rep(3, 32769), rep(3, math.MaxInt), rep(3, math.MinInt), rep(3, 1<<32+1), rep(258, 0),
		rep(0, 1), rep(0, -1), rep(0, 32768), rep(0, math.MinInt), rep(-1, 0), rep(1, 0), rep(259, 0), rep(math.MinInt, 0),
		{Byte: 'a', Dist: 1}, {Byte: 'a', Len: 1}, {Byte: 'a', Len: -1}, {Byte: 1, Len: 3, Dist: 1}, {Byte: 255, Len: 258, Dist: 2},
		rep(2, 32769), rep(-1, -1),
	} {
		refused(t, append(ahead[:len(ahead):len(ahead)], x), api.ErrDist)
		refused(t, []api.Token{x}, api.ErrDist)
		refused(t, []api.Token{{Byte: 1}, x, {Byte: 2}}, api.ErrDist)
	}
}

func TestExpandAheadOfTheFirstByte(t *testing.T) {
	refused(t, told(rep(3, 1)), api.ErrDist)
	refused(t, told("a", rep(3, 2)), api.ErrDist)
	refused(t, told("a", rep(3, 1), rep(3, 5)), api.ErrDist)
	refused(t, told(spread(32767), rep(3, 32768)), api.ErrDist)
	refused(t, told("abc", rep(3, 3), "a", rep(258, 8), "b"), api.ErrDist)
	for n := range 20 {
		for dist := 1; dist < 25; dist++ {
			b, err := lz.Expand(told(spread(n), rep(3, dist)))
			if ok := dist <= n; ok != (err == api.OK) || ok != (len(b) == n+3) || !ok && (err != api.ErrDist || len(b) > 0) {
				t.Errorf("%d bytes, then %d ahead: %d bytes, %v", n, dist, len(b), err)
			}
		}
	}
}

// zeros are tokens that tell so many bytes of 0.
func zeros(n int) []api.Token {
	l := []api.Token{{}}
	for n--; n >= 258; n -= 258 {
		l = append(l, rep(258, 1))
	}
	for range n {
		l = append(l, api.Token{})
	}
	return l
}

func TestExpandTheMost(t *testing.T) {
	const most = 1 << 19
	for _, n := range []int{most - 1, most} {
		b, err := lz.Expand(zeros(n))
		if err != api.OK || len(b) != n || bytes.Count(b, []byte{0}) != n {
			t.Errorf("%d bytes: %d, %v", n, len(b), err)
		}
	}
	bytesAlone := make([]api.Token, most)
	if b, err := lz.Expand(bytesAlone); err != api.OK || len(b) != most {
		t.Errorf("tokens of bytes alone: %d, %v", len(b), err)
	}
	refused(t, append(bytesAlone, api.Token{}), api.ErrLong)
	refused(t, zeros(most+1), api.ErrLong)
	for _, size := range []int{3, 4, 100, 257, 258} {
		if b, err := lz.Expand(append(zeros(most-size), rep(size, 32768))); err != api.OK || len(b) != most {
			t.Fatalf("a last one of %d: %d, %v", size, len(b), err)
		}
		refused(t, append(zeros(most-size+1), rep(size, 32768)), api.ErrLong)
	}
}

func TestExpandFirstError(t *testing.T) {
	const most = 1 << 19
	full := zeros(most)
	// one token has both faults: ErrDist
	refused(t, append(full, rep(259, 1)), api.ErrDist)
	refused(t, append(full, rep(3, 32769)), api.ErrDist)
	refused(t, append(full, api.Token{Dist: 1}), api.ErrDist)
	// the first token that is wrong counts
	refused(t, append(full, api.Token{}, rep(3, 0)), api.ErrLong)
	refused(t, append(full, rep(258, 32768), rep(2, 1)), api.ErrLong)
	refused(t, slices.Concat(told("a", rep(3, 2)), full, full), api.ErrDist)
	refused(t, slices.Concat(zeros(most-1), []api.Token{{Dist: 1}, {}, {}}), api.ErrDist)
}

func TestExpandChangesAndKeepsNothing(t *testing.T) {
	room := told("abc", rep(9, 2), "x", rep(3, 4), rep(5, 5), "y")
	l := room[:5]
	was := slices.Clone(room)
	first, _ := lz.Expand(l)
	kept := slices.Clone(first)
	if !slices.Equal(room, was) {
		t.Fatal("the tokens, or the room behind them, were changed")
	}
	second, _ := lz.Expand(l)
	for i := range first[:cap(first)] {
		first[:cap(first)][i] = 0xee
	}
	clear(room)
	if !bytes.Equal(second, kept) {
		t.Error("one answer shows in another one")
	}
	if third, err := lz.Expand(was[:5]); err != api.OK || !bytes.Equal(third, kept) {
		t.Error("the same tokens, another answer")
	}
}

// P7.3

// wantBack tells that bytes come back out of their tokens.
func wantBack(t *testing.T, name string, b []byte) {
	t.Helper()
	got, err := lz.Expand(lz.Match(b))
	if err != api.OK || !bytes.Equal(got, b) {
		t.Errorf("%s: %d bytes, back come %d, %v", name, len(b), len(got), err)
	}
}

func TestBytesComeBack(t *testing.T) {
	s := numbers(77)
	for range 200 {
		wantBack(t, "noise", s.noise(s.below(5000), 1+s.below(256)))
		wantBack(t, "patches", s.patches(1+s.below(5000)))
	}
	for range 3 {
		wantBack(t, "much", s.patches(100000+s.below(100000)))
	}
}

func TestTheMostBytesComeBack(t *testing.T) {
	const most = 1 << 19
	s := numbers(78)
	wantBack(t, "all alike", make([]byte, most))
	wantBack(t, "noise", s.noise(most, 256))
	wantBack(t, "patches", s.patches(most))
	wantBack(t, "texts", bytes.Repeat([]byte("a text, again and again. "), most/25))
	few := make([]byte, most)
	for i := 0; i < most; i += 1 + s.below(200) {
		few[i] = byte(s.below(256))
	}
	wantBack(t, "few others", few)
}

func TestMoreThanTheMost(t *testing.T) {
	b := make([]byte, 1<<19+1)
	l := lz.Match(b) // Match has no bound
	n := 0
	for _, x := range l {
		n += max(1, x.Len)
	}
	if n != len(b) {
		t.Errorf("tokens of %d bytes, of %d", n, len(b))
	}
	refused(t, l, api.ErrLong)
}

// P7.4

func TestBytesAllAlike(t *testing.T) {
	for _, n := range []int{1, 2, 3, 4, 5, 258, 259, 260, 261, 262, 263, 516, 517, 518, 519, 520, 521, 5000} {
		for _, c := range []byte{0, 7, 255} {
			want := []api.Token{{Byte: c}}
			left := n - 1
			for ; left >= 3; left -= min(left, 258) {
				want = append(want, rep(min(left, 258), 1))
			}
			for range left { // fewer than three are no repetition
				want = append(want, api.Token{Byte: c})
			}
			wantTokens(t, "all alike", bytes.Repeat([]byte{c}, n), want)
		}
	}
}

func TestNoTokenCouldBeLonger(t *testing.T) {
	s := numbers(79)
	for range 40 {
		b := append(s.patches(1+s.below(2000)), s.noise(s.below(300), 3)...)
		at := 0
		for _, x := range lz.Match(b) {
			for dist := 1; dist <= at; dist++ {
				n := matched(b, at, dist)
				if n >= 3 && n > x.Len || n == x.Len && n > 0 && dist < x.Dist {
					t.Fatalf("at %d: %v, but %d bytes stand %d ahead", at, x, n, dist)
				}
			}
			if x.Len == 0 && x.Byte != b[at] {
				t.Fatalf("at %d: %v, but there is %d", at, x, b[at])
			}
			at += max(1, x.Len)
		}
		if at != len(b) {
			t.Fatalf("tokens of %d bytes, of %d", at, len(b))
		}
	}
}
