package deflate_test

import (
	"bytes"
	"os"
	"slices"
	"strings"
	"sync"
	"testing"

	"vignette/api"
	"vignette/deflate"
	"vignette/lz"
)

// P9.1

func TestExamples(t *testing.T) {
	for _, b := range [][]byte{nil, {}} {
		if s := good(t, b); !bytes.Equal(s, []byte{3, 0}) {
			t.Errorf("nothing: %x", s)
		}
	}
	if s := good(t, []byte("abc")); !bytes.Equal(s, []byte{0x4b, 0x4c, 0x4a, 6, 0}) {
		t.Errorf("abc: %x", s)
	}
}

func TestTooLong(t *testing.T) {
	for _, n := range []int{api.MaxBody + 1, api.MaxBody + 2, 2*api.MaxBody + 7} {
		if s, e := deflate.Deflate(make([]byte, n)); s != nil || e != api.ErrLong {
			t.Errorf("of %d bytes: %.20x, %v", n, s, e)
		}
	}
	s := numbers(3)
	good(t, s.noise(api.MaxBody, 60))
	for less := range 3 {
		good(t, make([]byte, api.MaxBody-less))
	}
}

// TestSizes holds the sizes that the other tests lean on against tokens that are counted here.
func TestSizes(t *testing.T) {
	for _, x := range []struct{ n, size int }{{0, 5}, {1, 6}, {65535, 65540}, {65536, 65546}, {131070, 131080}, {131071, 131086}} {
		if n := storedSize(x.n); n != x.size {
			t.Errorf("stored, %d: %d", x.n, n)
		}
	}
	for _, x := range []struct{ n, bits int }{{3, 7}, {10, 7}, {11, 8}, {18, 8}, {19, 9}, {66, 10}, {67, 11}, {114, 11}, {115, 12}, {131, 13}, {257, 13}, {258, 8}} {
		if n := lengthBits(x.n); n != x.bits {
			t.Errorf("length %d: %d", x.n, n)
		}
	}
	for _, x := range []struct{ n, bits int }{{1, 5}, {4, 5}, {5, 6}, {8, 6}, {9, 7}, {16, 7}, {17, 8}, {16385, 18}, {32768, 18}} {
		if n := distanceBits(x.n); n != x.bits {
			t.Errorf("distance %d: %d", x.n, n)
		}
	}
}

// TestAllShortTexts are all of few letters, with such as have 8 and 9 bits in fixed blocks.
func TestAllShortTexts(t *testing.T) {
	for x := range 256 {
		good(t, []byte{byte(x)})
		good(t, []byte{byte(x), byte(x * 7)})
	}
	for _, letters := range []string{"ab", "\x8f\x90", "\x00\xff"} {
		texts := []string{""}
		for range 7 {
			var longer []string
			for _, text := range texts {
				good(t, []byte(text))
				longer = append(longer, text+letters[:1], text+letters[1:])
			}
			texts = longer
		}
	}
}

// TestNothingToSpare are bytes that only get longer by codes: there are as many stored blocks as they need.
func TestNothingToSpare(t *testing.T) {
	s := numbers(5)
	for _, n := range []int{300, 1000, 65534, 65535, 65536, 131070, 131071, api.MaxBody} {
		if b := good(t, s.noise(n, 256)); kind(b) != 0 || len(b) != storedSize(n) {
			t.Errorf("of %d bytes: %d, type %d", n, len(b), kind(b))
		}
	}
	// No bytes are spared where none need be: these have 9 bits in fixed blocks.
	for n := range 40 {
		b := s.noise(n, 100)
		for i := range b {
			b[i] += 150
		}
		good(t, b)
	}
}

// TestLengths has repetitions of all lengths, in texts whose shortest form is a block of each type that has any.
func TestLengths(t *testing.T) {
	s := numbers(7)
	met := map[int]int{}
	for n := 3; n <= 258; n++ {
		all := s.noise(n+1, 144)
		text := slices.Concat(all[:n], []byte("\x90"), all[:n], all[n:])
		if l := lz.Match(text); !slices.ContainsFunc(l, func(t api.Token) bool { return t.Len >= n }) {
			t.Errorf("no repetition of %d", n)
		}
		met[kind(good(t, text))]++
		// Many bytes of few letters: codes of their own are worth what it takes to tell them.
		few := s.noise(n, 20)
		met[kind(good(t, slices.Concat(s.noise(300, 20), few, []byte("z"), few)))]++
	}
	if met[1] != 256 || met[2] != 256 {
		t.Errorf("types were met so often: %v", met)
	}
}

// TestDistances has repetitions from about all places at which another symbol of the distances begins.
func TestDistances(t *testing.T) {
	s := numbers(11)
	for dist := 1; dist <= 32768; dist *= 2 {
		for _, d := range []int{dist - 1, dist, dist + 1, dist + dist/2 - 1, dist + dist/2, dist + dist/2 + 1} {
			if d < 1 || d > 32769 {
				continue
			}
			text := s.noise(d, 20)
			text = append(text, slices.Repeat(text, 600/d+1)[:600]...)
			if l := lz.Match(text); d <= 32768 && !slices.Contains(l, api.Token{Len: 258, Dist: d}) {
				t.Errorf("no repetition from %d", d)
			}
			if b := good(t, text); d > 100 && kind(b) != 2 {
				t.Errorf("from %d: type %d", d, kind(b))
			}
		}
	}
}

// TestRowsOfLengths has letters whose lengths are alike, and letters between that there are not, of all counts up to
// where no symbol tells more of them.
func TestRowsOfLengths(t *testing.T) {
	s := numbers(13)
	for gap := range 250 {
		// Between the two letters, ahead of the first one, and behind the second one.
		for _, two := range [][]byte{{0, byte(gap + 1)}, {byte(gap), byte(gap + 3)}, {byte(252 - gap), 255 - byte(gap)}} {
			var text []byte
			for range 400 {
				text = append(text, two[s.below(2)])
			}
			if b := good(t, text); kind(b) != 2 {
				t.Errorf("%d letters between: type %d", gap, kind(b))
			}
		}
	}
	for like := 1; like <= 130; like++ {
		text := s.noise(like*20, like)
		for i := range text {
			text[i] += byte(like / 3)
		}
		good(t, text)
		good(t, append(bytes.Repeat([]byte("\xff"), 500), text...))
	}
}

// TestManyRows has letters in rows, by chance.
func TestManyRows(t *testing.T) {
	s := numbers(17)
	met := 0
	for range 400 {
		var text []byte
		for at := s.below(100); at < 256; at += 1 + s.below(1+s.below(150)) {
			often := 1 << s.below(8)
			for n := 1 + s.below(12); n > 0 && at < 256; n-- {
				text = append(text, bytes.Repeat([]byte{byte(at)}, often)...)
				at++
			}
		}
		if b := good(t, s.mixed(text)); kind(b) == 2 {
			met++
		}
	}
	if met < 300 {
		t.Errorf("only %d blocks have codes of their own", met)
	}
}

// TestDeepCodes has letters of which each is as frequent as the two ahead together, so that the best codes without a
// limit would have more bits than there may be.
func TestDeepCodes(t *testing.T) {
	s := numbers(19)
	for letters := 10; letters <= 25; letters++ {
		var text []byte
		for n, a, b := 0, 1, 1; n < letters; n, a, b = n+1, b, a+b {
			text = append(text, bytes.Repeat([]byte{byte(n * 9)}, a)...)
		}
		good(t, text)
		// Codes of like lengths would take half of the bytes, or more.
		if b := good(t, s.mixed(text)); kind(b) != 2 || letters > 15 && len(b) >= len(text)*9/20 {
			t.Errorf("of %d letters: type %d, %d of %d bytes", letters, kind(b), len(b), len(text))
		}
	}
}

// TestDeepLengths has letters whose lengths are as frequent as those letters are, for the lengths' own code.
func TestDeepLengths(t *testing.T) {
	s := numbers(23)
	for range 150 {
		var text []byte
		for c := range 256 {
			// Half of all letters come once, a quarter twice, and so on; lengths beside each other are not alike.
			often := 1
			for s.below(2) == 0 && often < 1<<10 {
				often *= 2
			}
			text = append(text, bytes.Repeat([]byte{byte(c)}, often)...)
		}
		if s.below(2) == 0 {
			text = append(text, make([]byte, 1500)...)
		}
		good(t, s.mixed(text))
	}
}

// apart is a text of so many letters in which no three bytes stand twice.
func apart(letters int) []byte {
	text := []byte{0, 0, 0}
	been := map[string]bool{string(text): true}
	for {
		next := letters - 1
		for next >= 0 && been[string(append(text[len(text)-2:len(text):len(text)], byte(next)))] {
			next--
		}
		if next < 0 {
			return text
		}
		text = append(text, byte(next))
		been[string(text[len(text)-3:])] = true
	}
}

// TestFewDistances has blocks with codes of their own, and without distances, or with a few of them.
func TestFewDistances(t *testing.T) {
	text := apart(12)
	for from := range 4 {
		b := bytes.Clone(text)
		for n := range from {
			b = append(b, byte(20+n))
			b = append(b, b[len(b)-50*(n+1):][:20]...)
		}
		dists := map[int]bool{}
		for _, l := range lz.Match(b) {
			if l.Len > 0 {
				dists[l.Dist] = true
			}
		}
		if s := good(t, b); kind(s) != 2 || len(dists) != from {
			t.Errorf("type %d, distances %v", kind(s), dists)
		}
	}
}

// TestAlwaysTheSame asks for several streams, one behind the other and side by side.
func TestAlwaysTheSame(t *testing.T) {
	s := numbers(29)
	for _, b := range [][]byte{nil, []byte("abc"), s.noise(3000, 256), s.noise(3000, 7), bytes.Repeat([]byte("abcdefg"), 500)} {
		want, _ := deflate.Deflate(b)
		want = bytes.Clone(want)
		var all sync.WaitGroup
		for range 8 {
			all.Go(func() {
				if got, e := deflate.Deflate(bytes.Clone(b)); e != api.OK || !bytes.Equal(got, want) {
					t.Errorf("%.20x, then %.20x", want, got)
				}
			})
		}
		all.Wait()
	}
}

// TestWhatIsHandedOut writes to what was handed in and out: no later answer shows it.
func TestWhatIsHandedOut(t *testing.T) {
	s := numbers(31)
	for _, b := range [][]byte{nil, []byte("abc"), s.noise(500, 256), s.noise(500, 3)} {
		room := append(bytes.Clone(b), "behind"...)
		first := good(t, room[:len(b)])
		want := bytes.Clone(first)
		if string(room[len(b):]) != "behind" {
			t.Error("the room behind was changed")
		}
		clear(room)
		if !bytes.Equal(first, want) {
			t.Error("what was handed in is kept")
		}
		clear(first[:cap(first)])
		if again := good(t, b); !bytes.Equal(again, want) {
			t.Errorf("%x, then %x", want, again)
		}
	}
}

// P9.2

func TestRowsOfOneByte(t *testing.T) {
	for _, c := range []byte{0, 143, 144, 255} {
		var sizes []int
		for n := range 800 {
			sizes = append(sizes, n)
		}
		for _, n := range append(sizes, 65535, 65536, 65537, api.MaxBody-1, api.MaxBody) {
			b := good(t, bytes.Repeat([]byte{c}, n))
			bits := 3 + 7
			if n > 0 {
				bits += fixedBits(int(c))
			}
			for left := n - 1; left > 0; left -= min(left, 258) {
				if left < 3 {
					bits += left * fixedBits(int(c))
				} else {
					bits += lengthBits(min(left, 258)) + 5
				}
			}
			if len(b) > (bits+7)/8 {
				t.Errorf("%d of %d: %d bytes, and %d bits in fixed form", n, c, len(b), bits)
			}
		}
	}
}

// TestManyTexts are texts by chance, with repetitions and without.
func TestManyTexts(t *testing.T) {
	s := numbers(37)
	met := map[int]int{}
	for n := range 1500 {
		b := s.noise(s.below(1+n/2), 1+s.below(256))
		for s.below(3) > 0 && len(b) > 0 {
			from := s.below(len(b))
			b = append(b, b[from:from+s.below(len(b)-from+1)]...)
			b = append(b, s.noise(s.below(9), 256)...)
		}
		met[kind(good(t, b))]++
	}
	for x := range 3 {
		if met[x] < 50 {
			t.Errorf("type %d was met %d times", x, met[x])
		}
	}
}

// TestLongTexts are such as the program meets: texts, and pixels.
func TestLongTexts(t *testing.T) {
	doc, err := os.ReadFile("deflate_test.go")
	if err != nil {
		t.Fatal(err)
	}
	s := numbers(41)
	rows := []byte{}
	for y := range 256 {
		for x := range 256 {
			rows = append(rows, byte(x), byte(y), byte(x/16*y/16))
		}
	}
	for _, b := range [][]byte{doc, []byte(strings.Repeat("a remote display ", 9000)), rows, s.noise(100000, 3), s.noise(100000, 200), slices.Concat(s.noise(70000, 256), make([]byte, 70000), doc)} {
		good(t, b)
	}
}
