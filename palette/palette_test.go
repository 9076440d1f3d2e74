package palette_test

import (
	"bytes"
	"math"
	"slices"
	"testing"

	"vignette/api"
	"vignette/palette"
)

// encoded fails unless Encode tells of pixels what the model does, and Decode the pixels of that.
func encoded(t *testing.T, pix []uint32) []byte {
	t.Helper()
	got, is := palette.Encode(pix)
	want, wanted := bytesOf(pix)
	if is != wanted || !bytes.Equal(got, want) {
		t.Fatalf("Encode of %d pixels is %x, %v, not %x, %v", len(pix), got[:min(len(got), 80)], is, want[:min(len(want), 80)], wanted)
	}
	if is && len(pix) <= most {
		if back, err := palette.Decode(got, len(pix)); err != api.OK || !slices.Equal(back, lowOf(pix)) {
			t.Fatalf("what is encoded of %d pixels is decoded as %d, %v", len(pix), len(back), err)
		}
	}
	return got
}

// decoded fails unless Decode tells of bytes, as n pixels that may be asked for, what the model does.
func decoded(t *testing.T, b []byte, n int) bool {
	t.Helper()
	want, is := pixelsOf(b, n)
	if !is {
		refused(t, b, n, api.ErrData)
		return false
	}
	if got, err := palette.Decode(b, n); err != api.OK || !slices.Equal(got, want) {
		t.Fatalf("Decode of %d bytes, %x.., as %d pixels is %d, %v", len(b), b[:min(len(b), 60)], n, len(got), err)
	}
	return true
}

// refused fails unless Decode answers an error, and no pixels.
func refused(t *testing.T, b []byte, n int, want api.Errno) {
	t.Helper()
	if got, err := palette.Decode(b, n); err != want || len(got) != 0 {
		t.Fatalf("Decode of %d bytes, %x.., as %d pixels is %d, %v; want %v", len(b), b[:min(len(b), 60)], n, len(got), err, want)
	}
}

// P12.1

func TestEncode(t *testing.T) {
	for _, c := range []struct {
		pix  []uint32
		want []byte
		is   bool
	}{
		{nil, nil, false},
		{[]uint32{}, nil, false},
		{[]uint32{0x010203}, []byte{0, 1, 2, 3}, true},
		{[]uint32{0}, []byte{0, 0, 0, 0}, true},
		{[]uint32{0xffffffff, 0x00ffffff}, []byte{0, 255, 255, 255}, true},
		{[]uint32{0x010203, 0x010203, 0x040506}, []byte{1, 1, 2, 3, 4, 5, 6, 4}, true},
		// The colours stand in the order in which they come first, not by their numbers.
		{[]uint32{0x040506, 0x010203, 0x010203}, []byte{1, 4, 5, 6, 1, 2, 3, 6}, true},
		{[]uint32{3, 1, 2, 1, 3}, []byte{2, 0, 0, 3, 0, 0, 1, 0, 0, 2, 0x64, 0x00}, true},
		// What is no part of a colour counts for nothing.
		{[]uint32{0x010203, 0xff010203, 0x80040506}, []byte{1, 1, 2, 3, 4, 5, 6, 4}, true},
		// Four colours take 2 bits each, five 4 bits.
		{[]uint32{1, 2, 3, 4}, []byte{3, 0, 0, 1, 0, 0, 2, 0, 0, 3, 0, 0, 4, 0xe4}, true},
		{[]uint32{1, 2, 3, 4, 5}, []byte{4, 0, 0, 1, 0, 0, 2, 0, 0, 3, 0, 0, 4, 0, 0, 5, 0x10, 0x32, 0x04}, true},
	} {
		if got, is := palette.Encode(c.pix); is != c.is || !bytes.Equal(got, c.want) {
			t.Errorf("Encode(%x) is %x, %v", c.pix, got, is)
		}
		encoded(t, c.pix)
	}
}

func TestEncodeOfSoManyColors(t *testing.T) {
	n := numbers(121)
	for k := 1; k <= 40; k++ {
		colors := n.colors(k)
		for _, pix := range [][]uint32{
			colors, append(n.of(100, colors), colors...), append(slices.Clone(colors), n.of(100, colors)...), slices.Repeat(colors, 3),
		} {
			encoded(t, pix)
			if _, is := palette.Encode(pix); is != (k <= 16) {
				t.Errorf("%d colours: %v", k, is)
			}
		}
	}
}

// The one colour too many may come at any place, behind any count of pixels.
func TestEncodeOfTheSeventeenthColor(t *testing.T) {
	n := numbers(122)
	colors := n.colors(17)
	for size := range 200 {
		pix := append(append(slices.Clone(colors[:16]), n.of(size, colors[:16])...), colors[16])
		encoded(t, pix)
		encoded(t, pix[:len(pix)-1])
		encoded(t, append(pix, n.of(9, colors)...))
	}
	pix := append(slices.Repeat(colors[:16], most/16), colors[16])
	if b, is := palette.Encode(pix); is || len(b) != 0 {
		t.Errorf("a last colour too many: %d bytes, %v", len(b), is)
	}
}

func TestEncodeOfAllShortRows(t *testing.T) {
	for n := range 7 {
		rowsOf(n, 5, func(row []int) {
			var pix []uint32
			for _, x := range row {
				pix = append(pix, uint32(x)*0x102030)
			}
			encoded(t, pix)
		})
	}
}

func TestEncodeOfAllLengths(t *testing.T) {
	n := numbers(123)
	for k := 1; k <= 16; k++ {
		colors := n.colors(k)
		for size := range 80 {
			encoded(t, n.of(size, colors))
		}
	}
}

// Of a pixel's bits each of the 24 low ones makes another colour, and none of the high ones.
func TestEncodeOfEachBit(t *testing.T) {
	for _, color := range []uint32{0, 0xffffffff, 0x5a5a5a5a} {
		for bit := range 32 {
			want := 1 + 3*2 + 1
			if bit >= 24 {
				want = 1 + 3
			}
			if got := encoded(t, []uint32{color, color ^ 1<<bit}); len(got) != want {
				t.Errorf("%x, and it with the bit %d turned: %x", color, bit, got)
			}
		}
	}
}

// Encode has no bound of its own: not even where one row of bits would be more than there may be.
func TestEncodeOfFarMorePixels(t *testing.T) {
	n := numbers(124)
	full := 8 * api.MaxOut
	for _, c := range []struct{ k, size int }{
		{1, full + 9}, {2, full - 1}, {2, full}, {2, full + 1}, {2, 2*full + 9}, {4, full/2 + 3}, {3, full + 5}, {5, full/4 + 1}, {16, full/4 + 9},
	} {
		colors := n.colors(c.k)
		got, is := palette.Encode(slices.Repeat(colors, c.size/c.k+1)[:c.size])
		if !is {
			t.Fatalf("%d pixels of %d colours have no palette", c.size, c.k)
		}
		places := make([]int, c.size)
		for i := range places {
			places[i] = i % c.k
		}
		if !bytes.Equal(got, laid(colors, places, 0)) {
			t.Errorf("%d pixels of %d colours are %d bytes, and not those that they should be", c.size, c.k, len(got))
		}
	}
}

// P12.2

func TestDecode(t *testing.T) {
	for _, c := range []struct {
		b    []byte
		n    int
		want []uint32
		err  api.Errno
	}{
		{[]byte{1, 1, 2, 3, 4, 5, 6, 4}, 3, []uint32{0x010203, 0x010203, 0x040506}, api.OK},
		{[]byte{1, 1, 2, 3, 4, 5, 6, 8}, 3, nil, api.ErrData},
		{[]byte{1, 1, 2, 3, 4, 5, 6, 4}, 9, nil, api.ErrData},
		{[]byte{1, 1, 2, 3, 4, 5, 6, 4}, 8, []uint32{0x010203, 0x010203, 0x040506, 0x010203, 0x010203, 0x010203, 0x010203, 0x010203}, api.OK},
		{[]byte{1, 1, 2, 3, 4, 5, 6, 4}, 2, nil, api.ErrData},
		{[]byte{0, 1, 2, 3}, 1, []uint32{0x010203}, api.OK},
		{[]byte{0, 1, 2, 3}, 3, []uint32{0x010203, 0x010203, 0x010203}, api.OK},
		{[]byte{0, 1, 2, 3, 0}, 1, nil, api.ErrData},
		{[]byte{0, 1, 2}, 1, nil, api.ErrData},
		{[]byte{0}, 1, nil, api.ErrData},
		{nil, 1, nil, api.ErrData},
		{[]byte{}, 1, nil, api.ErrData},
		// Colours may stand there twice, or be of no pixel.
		{[]byte{1, 1, 2, 3, 1, 2, 3, 2}, 2, []uint32{0x010203, 0x010203}, api.OK},
		{[]byte{1, 1, 2, 3, 4, 5, 6, 0}, 2, []uint32{0x010203, 0x010203}, api.OK},
		{[]byte{1, 1, 2, 3, 4, 5, 6, 3}, 2, []uint32{0x040506, 0x040506}, api.OK},
		// A number that is no colour's.
		{[]byte{2, 0, 0, 1, 0, 0, 2, 0, 0, 3, 2}, 1, []uint32{3}, api.OK},
		{[]byte{2, 0, 0, 1, 0, 0, 2, 0, 0, 3, 3}, 1, nil, api.ErrData},
		// More than 16 colours.
		{append([]byte{15}, make([]byte, 48+1)...), 1, []uint32{0}, api.OK},
		{append([]byte{16}, make([]byte, 51+1)...), 1, nil, api.ErrData},
		{append([]byte{16}, make([]byte, 51+2)...), 1, nil, api.ErrData},
		{append([]byte{255}, make([]byte, 768+1)...), 1, nil, api.ErrData},
		// The error that is named first is told.
		{[]byte{1, 1, 2, 3, 4, 5, 6, 8}, 0, nil, api.ErrArg},
		{nil, 0, nil, api.ErrArg},
		{[]byte{16}, most + 1, nil, api.ErrArg},
	} {
		if got, err := palette.Decode(c.b, c.n); err != c.err || !slices.Equal(got, c.want) {
			t.Errorf("Decode(%x, %d) is %x, %v", c.b, c.n, got, err)
		}
	}
}

func TestDecodeCountsThatMayNotBe(t *testing.T) {
	one := []byte{0, 1, 2, 3}
	two, _ := bytesOf(slices.Repeat([]uint32{1, 2}, most))
	for _, n := range []int{0, -1, -2, -8, -256, -most, most + 1, most + 2, 2 * most, 1 << 31, 1 << 32, 1<<32 + 1, 1<<62 + 1, math.MaxInt, math.MinInt, math.MinInt + 1} {
		for _, b := range [][]byte{nil, {}, one, two, {16}, {1, 1, 2, 3, 4, 5, 6, 4}, {1, 1, 2, 3, 4, 5, 6}} {
			refused(t, b, n, api.ErrArg)
		}
	}
}

func TestDecodeOfTheMost(t *testing.T) {
	n := numbers(125)
	for k := 1; k <= 16; k++ {
		colors := n.colors(k)
		b := encoded(t, append(n.of(most-k, colors), colors...))
		refused(t, append(b[:len(b):len(b)], 0), most, api.ErrData)
		// Of one colour a palette has no numbers: there may be any count of pixels.
		if k > 1 {
			refused(t, b, most-8, api.ErrData)
			refused(t, b[:len(b)-1], most, api.ErrData)
		}
	}
}

func TestDecodeOfFarTooManyBytes(t *testing.T) {
	for _, k := range []int{1, 2, 4, 16} {
		long := make([]byte, 1<<24)
		long[0] = byte(k - 1)
		for _, pixels := range []int{1, 2, 256, most} {
			refused(t, long, pixels, api.ErrData)
		}
	}
}

// Each first byte, with all counts of bytes behind it that might be enough.
func TestDecodeOfEachCountOfColors(t *testing.T) {
	for first := range 256 {
		b := make([]byte, 1+3*(first+1)+9)
		b[0] = byte(first)
		for size := range len(b) + 1 {
			if size < 50 || size > len(b)-12 {
				for _, pixels := range []int{1, 2, 3, 4, 5, 8, 9, 16, 17} {
					decoded(t, b[:size], pixels)
				}
			}
		}
	}
}

// Each last byte: which numbers are colours', and that the bits behind the last one are 0.
func TestDecodeOfEachByteOfNumbers(t *testing.T) {
	n := numbers(126)
	for k := 1; k <= 16; k++ {
		colors := n.colors(k)
		for pixels := 1; pixels < 18; pixels++ {
			places := make([]int, pixels)
			for i := range places {
				places[i] = n.below(k)
			}
			b := laid(colors, places, 0)
			if !decoded(t, b, pixels) {
				t.Fatalf("%x are no palette of %d pixels", b, pixels)
			}
			for at := 1 + 3*k; at < len(b); at++ {
				turned := slices.Clone(b)
				for x := range 256 {
					turned[at] = byte(x)
					decoded(t, turned, pixels)
				}
			}
		}
	}
}

func TestDecodeOfOtherBitsBehind(t *testing.T) {
	n := numbers(127)
	for k := 2; k <= 16; k++ {
		for pixels := 1; pixels < 40; pixels++ {
			places := make([]int, pixels)
			b := laid(n.colors(k), places, 1)
			if decoded(t, b, pixels) != (pixels*sizeOf(k)%8 == 0) {
				t.Fatalf("%x as %d pixels", b, pixels)
			}
		}
	}
}

// Of all numbers those of the colours alone are taken, at any place.
func TestDecodeOfEachNumber(t *testing.T) {
	n := numbers(128)
	for k := 2; k <= 16; k++ {
		colors := n.colors(k)
		for place := range 1 << sizeOf(k) {
			for at := range 12 {
				places := make([]int, 12)
				places[at] = place
				if decoded(t, laid(colors, places, 0), 12) != (place < k) {
					t.Fatalf("the number %d at %d, of %d colours", place, at, k)
				}
			}
		}
	}
}

func TestDecodeOfAllCountsOfPixels(t *testing.T) {
	n := numbers(129)
	for k := 1; k <= 16; k++ {
		for _, size := range []int{1, 2, 3, 7, 8, 9, 30} {
			colors := n.colors(k)
			places := make([]int, size)
			b := laid(colors, places, 0)
			for pixels := 1; pixels < size+20; pixels++ {
				decoded(t, b, pixels)
			}
		}
	}
}

func TestDecodeOfPartsAndOfMore(t *testing.T) {
	n := numbers(130)
	for range 200 {
		pix := n.of(1+n.below(60), n.colors(1+n.below(16)))
		b := encoded(t, pix)
		for size := range len(b) {
			refused(t, b[:size], len(pix), api.ErrData)
		}
		for more := 1; more < 9; more++ {
			refused(t, append(b[:len(b):len(b)], make([]byte, more)...), len(pix), api.ErrData)
			refused(t, append(b[:len(b):len(b)], n.bytes(more)...), len(pix), api.ErrData)
		}
	}
}

func TestDecodeOfChance(t *testing.T) {
	n := numbers(131)
	taken := 0
	for range 40000 {
		k, pixels := 1+n.below(16), 1+n.below(20)
		size := 1 + 3*k + (pixels*sizeOf(k)+7)/8
		if n.below(8) == 0 {
			size = n.below(60)
		}
		b := n.bytes(size)
		if size > 0 && n.below(20) > 0 {
			b[0] = byte(k - 1)
		}
		if decoded(t, b, pixels) {
			taken++
		}
	}
	if taken < 1000 {
		t.Errorf("%d were taken", taken)
	}
}

// P12.3

func TestWhatIsEncodedIsDecodedAsItsLowBits(t *testing.T) {
	n := numbers(132)
	for range 600 {
		k := 1 + n.below(16)
		colors := n.colors(k)
		pix := append(n.of(n.below(300), colors), colors...)
		b, is := palette.Encode(pix)
		back, err := palette.Decode(b, len(pix))
		if !is || err != api.OK || !slices.Equal(back, lowOf(pix)) {
			t.Fatalf("of %d pixels %d come back, %v", len(pix), len(back), err)
		}
		if want := 1 + 3*k + (len(pix)*sizeOf(k)+7)/8; len(b) != want {
			t.Fatalf("%d pixels of %d colours are %d bytes, not %d", len(pix), k, len(b), want)
		}
	}
}

// Rules

func TestWhatIsHandedInStays(t *testing.T) {
	n := numbers(133)
	for range 200 {
		room := n.of(2+n.below(80), n.colors(1+n.below(16)))
		pix := room[:1+len(room)/2]
		kept := slices.Clone(room)
		first, _ := palette.Encode(pix)
		again, _ := palette.Encode(pix)
		want, _ := bytesOf(pix)
		scribble(first, 0xee)
		if third, _ := palette.Encode(pix); !slices.Equal(room, kept) || !bytes.Equal(again, want) || !bytes.Equal(third, want) {
			t.Fatal("Encode changed what it was handed, or shares what it answers")
		}
		bytesRoom := append(again, n.bytes(9)...)
		b := bytesRoom[:len(again)]
		keptBytes := slices.Clone(bytesRoom)
		one, _ := palette.Decode(b, len(pix))
		two, _ := palette.Decode(b, len(pix))
		scribble(one, 0xeeeeee)
		if !bytes.Equal(bytesRoom, keptBytes) || !slices.Equal(two, lowOf(pix)) {
			t.Fatal("Decode changed what it was handed, or shares what it answers")
		}
		decoded(t, b, len(pix))
	}
}

// scribble writes over a list, and over the room behind its end.
func scribble[T any](l []T, by T) {
	l = l[:cap(l)]
	for i := range l {
		l[i] = by
	}
}
