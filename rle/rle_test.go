package rle_test

import (
	"bytes"
	"math"
	"slices"
	"testing"

	"vignette/api"
	"vignette/rle"
)

// encoded fails unless Encode tells of pixels what the model does, and Decode the pixels of that.
func encoded(t *testing.T, pix []uint32) []byte {
	t.Helper()
	got, want := rle.Encode(pix), bytesOf(pix)
	if !bytes.Equal(got, want) {
		t.Fatalf("Encode of %d pixels is %x, not %x", len(pix), got[:min(len(got), 80)], want[:min(len(want), 80)])
	}
	if len(pix) <= most {
		if back, err := rle.Decode(got, len(pix)); err != api.OK || !slices.Equal(back, lowOf(pix)) {
			t.Fatalf("what is encoded of %d pixels is decoded as %d, %v", len(pix), len(back), err)
		}
	}
	return got
}

// decoded fails unless Decode tells of bytes, as n pixels that may be asked for, what the model does.
func decoded(t *testing.T, b []byte, n int) {
	t.Helper()
	want, is := pixelsOf(b, n)
	if !is {
		refused(t, b, n, api.ErrData)
		return
	}
	if got, err := rle.Decode(b, n); err != api.OK || !slices.Equal(got, want) {
		t.Fatalf("Decode of %d bytes, %x.., as %d pixels is %d, %v", len(b), b[:min(len(b), 40)], n, len(got), err)
	}
}

// refused fails unless Decode answers an error, and no pixels.
func refused(t *testing.T, b []byte, n int, want api.Errno) {
	t.Helper()
	if got, err := rle.Decode(b, n); err != want || len(got) != 0 {
		t.Fatalf("Decode of %d bytes, %x.., as %d pixels is %d, %v; want %v", len(b), b[:min(len(b), 40)], n, len(got), err, want)
	}
}

// P11.1

func TestEncode(t *testing.T) {
	for _, c := range []struct {
		pix  []uint32
		want []byte
	}{
		{nil, nil},
		{[]uint32{}, nil},
		{[]uint32{0}, []byte{0, 0, 0, 0}},
		{[]uint32{0xffffff}, []byte{0, 255, 255, 255}},
		{[]uint32{0x010203, 0x010203, 0x040506}, []byte{1, 1, 2, 3, 0, 4, 5, 6}},
		{[]uint32{1, 2, 1}, []byte{0, 0, 0, 1, 0, 0, 0, 2, 0, 0, 0, 1}},
		// What is no part of a colour counts for nothing.
		{[]uint32{0xff010203, 0x010203, 0x80010203}, []byte{2, 1, 2, 3}},
		{of(16, 0x010203), []byte{15, 1, 2, 3}},
		// A run has 256 pixels at most, and the first one has as many as it can.
		{of(255, 0x0a0b0c), []byte{254, 10, 11, 12}},
		{of(256, 0x0a0b0c), []byte{255, 10, 11, 12}},
		{of(257, 0x0a0b0c), []byte{255, 10, 11, 12, 0, 10, 11, 12}},
		{of(512, 0x0a0b0c), []byte{255, 10, 11, 12, 255, 10, 11, 12}},
		{append(of(300, 7), of(2, 8)...), []byte{255, 0, 0, 7, 43, 0, 0, 7, 1, 0, 0, 8}},
	} {
		if got := rle.Encode(c.pix); !bytes.Equal(got, c.want) {
			t.Errorf("Encode of %d pixels is %x, not %x", len(c.pix), got, c.want)
		}
		encoded(t, c.pix)
	}
}

func TestEncodeOfAllShortRows(t *testing.T) {
	for n := range 11 {
		rowsOf(n, 2, func(pix []uint32) { encoded(t, pix) })
	}
	for n := range 8 {
		rowsOf(n, 3, func(pix []uint32) { encoded(t, pix) })
	}
}

func TestEncodeOfRowsOfAnyLength(t *testing.T) {
	for n := range 1100 {
		encoded(t, of(n, 0x102030))
		encoded(t, append(of(n, 0x102030), 0x102031))
		encoded(t, append([]uint32{0x112030}, of(n, 0x102030)...))
	}
}

func TestEncodeOfChance(t *testing.T) {
	n := numbers(111)
	for _, longest := range []int{1, 2, 5, 255, 256, 257, 600} {
		for range 40 {
			encoded(t, n.rows(n.below(100), 1+n.below(5), longest))
		}
	}
	for _, size := range []int{1, 2, 255, 256, 257, most - 1, most, most + 1, 3 * most} {
		encoded(t, n.pixels(size))
		encoded(t, of(size, 0x0a0b0c))
	}
}

// Of a pixel's bits each of the 24 low ones makes another colour, and none of the high ones.
func TestEncodeOfEachBit(t *testing.T) {
	for _, color := range []uint32{0, 0xffffffff, 0x5a5a5a5a} {
		for bit := range 32 {
			want := 8
			if bit >= 24 {
				want = 4
			}
			if got := encoded(t, []uint32{color, color ^ 1<<bit}); len(got) != want {
				t.Errorf("%x, and it with the bit %d turned: %x", color, bit, got)
			}
		}
	}
}

func TestEncodeOfEachByte(t *testing.T) {
	for b := range uint32(256) {
		for place := range 3 {
			want := []byte{0, 0x11, 0x22, 0x33}
			want[3-place] = byte(b)
			pixel := 0x112233&^(0xff<<(8*place)) | b<<(8*place)
			if got := rle.Encode([]uint32{pixel}); !bytes.Equal(got, want) {
				t.Errorf("Encode of %06x is %x", pixel, got)
			}
		}
	}
}

// P11.2

func TestDecode(t *testing.T) {
	for _, c := range []struct {
		b    []byte
		n    int
		want []uint32
		err  api.Errno
	}{
		{[]byte{1, 1, 2, 3}, 2, []uint32{0x010203, 0x010203}, api.OK},
		{[]byte{1, 1, 2, 3}, 1, nil, api.ErrData},
		{[]byte{1, 1, 2, 3}, 3, nil, api.ErrData},
		{[]byte{1, 1, 2}, 2, nil, api.ErrData},
		{nil, 0, nil, api.OK},
		{[]byte{}, 0, nil, api.OK},
		{nil, 1, nil, api.ErrData},
		{nil, most, nil, api.ErrData},
		{[]byte{0, 0, 0, 0}, 0, nil, api.ErrData},
		{[]byte{0}, 0, nil, api.ErrData},
		// Runs may be shorter than they could be.
		{[]byte{0, 1, 2, 3, 0, 1, 2, 3}, 2, []uint32{0x010203, 0x010203}, api.OK},
		{[]byte{0, 0, 0, 9, 1, 0, 0, 9, 0, 0, 0, 9}, 4, of(4, 9), api.OK},
		{[]byte{0, 0, 0, 9, 255, 0, 0, 9}, 257, of(257, 9), api.OK},
		{[]byte{127, 255, 254, 253, 128, 255, 254, 253}, 257, of(257, 0xfffefd), api.OK},
		// All that is wrong stands behind what would be enough.
		{[]byte{1, 1, 2, 3, 0, 1, 2, 3}, 2, nil, api.ErrData},
		{[]byte{1, 1, 2, 3, 0}, 2, nil, api.ErrData},
		{[]byte{1, 1, 2, 3, 0, 0, 0}, 2, nil, api.ErrData},
		// The error that is named first is told.
		{[]byte{1, 1, 2}, -1, nil, api.ErrArg},
		{nil, most + 1, nil, api.ErrArg},
	} {
		if got, err := rle.Decode(c.b, c.n); err != c.err || !slices.Equal(got, c.want) {
			t.Errorf("Decode(%x, %d) is %x, %v", c.b, c.n, got, err)
		}
	}
}

func TestDecodeCountsThatMayNotBe(t *testing.T) {
	for _, n := range []int{-1, -2, -4, -256, -most, most + 1, most + 2, 2 * most, 1 << 31, 1 << 32, 1<<32 + 2, math.MaxInt, math.MinInt, math.MinInt + 2} {
		for _, b := range [][]byte{nil, {1, 1, 2, 3}, {1, 1, 2}, bytesOf(of(most+1, 5)), make([]byte, 4*most+4)} {
			refused(t, b, n, api.ErrArg)
		}
	}
}

func TestDecodeOfTheMost(t *testing.T) {
	n := numbers(112)
	for _, b := range [][]byte{
		bytesOf(of(most, 0xfedcba)), bytesOf(n.pixels(most)), make([]byte, 4*most), bytes.Repeat([]byte{254, 1, 2, 3, 0, 3, 2, 1}, 256),
	} {
		for _, pixels := range []int{0, 1, most - 1, most} {
			decoded(t, b, pixels)
		}
		for size := len(b) - 8; size < len(b); size++ {
			decoded(t, b[:size], most)
		}
		refused(t, append(b[:len(b):len(b)], 0), most, api.ErrData)
		refused(t, append(b[:len(b):len(b)], 0, 0, 0, 0), most, api.ErrData)
	}
}

func TestDecodeOfFarTooManyBytes(t *testing.T) {
	long := bytes.Repeat([]byte{255, 1, 2, 3}, 1<<22)
	for _, pixels := range []int{0, 1, 256, 512, most} {
		refused(t, long, pixels, api.ErrData)
		refused(t, long[:len(long)-1], pixels, api.ErrData)
	}
}

func TestDecodeOfEachCount(t *testing.T) {
	for count := range 256 {
		b := []byte{byte(count), 9, 8, 7}
		for pixels := range 260 {
			decoded(t, b, pixels)
		}
		for pixels := range 520 {
			decoded(t, append(b, 200, 1, 1, 1), pixels)
		}
	}
}

func TestDecodeOfEachByte(t *testing.T) {
	for place := 1; place < 4; place++ {
		for x := range 256 {
			b := []byte{2, 0x11, 0x22, 0x33, 0, 5, 5, 5}
			b[place] = byte(x)
			decoded(t, b, 4)
		}
	}
}

func TestDecodeOfAllShortRuns(t *testing.T) {
	for n := range 5 {
		runsOf(n, 3, 2, func(b []byte, pixels int) {
			for asked := max(0, pixels-2); asked < pixels+3; asked++ {
				decoded(t, b, asked)
			}
		})
	}
}

func TestDecodeOfPartsAndOfMore(t *testing.T) {
	n := numbers(113)
	for range 40 {
		pix := n.rows(1+n.below(8), 3, 300)
		b := rle.Encode(pix)
		for size := range len(b) {
			refused(t, b[:size], len(pix), api.ErrData)
		}
		for more := 1; more < 9; more++ {
			refused(t, append(b[:len(b):len(b)], n.bytes(more)...), len(pix), api.ErrData)
		}
		for pixels := range len(pix) + 600 {
			decoded(t, b, pixels)
		}
	}
}

func TestDecodeOfChance(t *testing.T) {
	n := numbers(114)
	for range 5000 {
		b := n.bytes(n.below(50))
		pixels := n.below(3000)
		if n.below(2) == 0 {
			pixels = 0
			for i := 0; i+3 < len(b); i += 4 {
				pixels += int(b[i]) + 1
			}
		}
		decoded(t, b, pixels)
	}
}

// P11.3

func TestWhatIsEncodedIsDecodedAsItsLowBits(t *testing.T) {
	n := numbers(115)
	for range 300 {
		pix := n.rows(n.below(60), 1+n.below(9), 1+n.below(500))
		if back, err := rle.Decode(rle.Encode(pix), len(pix)); err != api.OK || !slices.Equal(back, lowOf(pix)) {
			t.Fatalf("of %d pixels %d come back, %v", len(pix), len(back), err)
		}
	}
}

// Of all short rows of runs, each is either what Encode tells of its pixels, or has more runs.
func TestNoOtherBytesAreAsShort(t *testing.T) {
	for n := range 5 {
		runsOf(n, 3, 2, func(b []byte, pixels int) {
			pix, err := rle.Decode(b, pixels)
			if err != api.OK {
				t.Fatalf("Decode(%x, %d): %v", b, pixels, err)
			}
			if told := rle.Encode(pix); len(told) > len(b) || len(told) == len(b) && !bytes.Equal(told, b) {
				t.Fatalf("%x is told as %x", b, told)
			}
		})
	}
}

// Past what one run may have, runs of like pixels may be cut elsewhere, but none are fewer.
func TestNoBytesAreShorterThanLongRuns(t *testing.T) {
	for n := 1; n <= 1030; n++ {
		told := rle.Encode(of(n, 3))
		if want := (n + 255) / 256 * 4; len(told) != want {
			t.Fatalf("%d like pixels are %d bytes, not %d", n, len(told), want)
		}
		fewer := bytes.Repeat([]byte{255, 0, 0, 3}, len(told)/4-1)
		refused(t, fewer, n, api.ErrData)
	}
}

// Rules

func TestWhatIsHandedInStays(t *testing.T) {
	n := numbers(116)
	for range 100 {
		room := n.rows(20, 3, 40)
		pix := room[:len(room)/2]
		kept := slices.Clone(room)
		first, again := rle.Encode(pix), rle.Encode(pix)
		scribble(first, 0xee)
		if !slices.Equal(room, kept) || !bytes.Equal(again, bytesOf(pix)) || !bytes.Equal(rle.Encode(pix), again) {
			t.Fatal("Encode changed what it was handed, or shares what it answers")
		}
		bytesRoom := append(again, n.bytes(9)...)
		b := bytesRoom[:len(again)]
		keptBytes := slices.Clone(bytesRoom)
		one, _ := rle.Decode(b, len(pix))
		two, _ := rle.Decode(b, len(pix))
		scribble(one, 0xeeeeee)
		if !bytes.Equal(bytesRoom, keptBytes) || !slices.Equal(two, lowOf(pix)) {
			t.Fatal("Decode changed what it was handed, or shares what it answers")
		}
		decoded(t, b, len(pix))
	}
}

// scribble writes over a list, and over the room behind its end.
func scribble[T any](l []T, by T) {
	l = l[:cap(l)]
	for i := range l {
		l[i] = by
	}
}
