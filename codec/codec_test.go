package codec_test

import (
	"bytes"
	"compress/flate"
	"math"
	"slices"
	"testing"

	"vignette/api"
	"vignette/codec"
	"vignette/deflate"
)

// short is the beginning of bytes that may be many.
func short(b []byte) []byte { return b[:min(len(b), 60)] }

// encoded fails unless Encode tells of a picture what the model does, and Decode the picture of that; it answers the kind,
// and those that take as many bytes.
func encoded(t *testing.T, w, h int, pix []uint32) (uint8, []byte, []uint8) {
	t.Helper()
	kind, b, err := codec.Encode(api.Image{W: w, H: h, Pix: pix})
	best, want, kinds := bestOf(pix)
	if kind != best || !bytes.Equal(b, want) || err != api.OK {
		t.Fatalf("Encode of %d by %d: %d, %x, %v, not %d, %x", w, h, kind, short(b), err, best, short(want))
	}
	if len(b) > 3*w*h {
		t.Fatalf("Encode of %d by %d: %d bytes, more than the plain ones", w, h, len(b))
	}
	decoded(t, kind, w, h, b, lowOf(pix))
	return kind, b, kinds
}

// decoded fails unless Decode answers a picture of these pixels.
func decoded(t *testing.T, kind uint8, w, h int, b []byte, want []uint32) {
	t.Helper()
	m, err := codec.Decode(kind, w, h, b)
	if err != api.OK || m.W != w || m.H != h || !slices.Equal(m.Pix, want) {
		t.Fatalf("Decode(%d, %d, %d, %d bytes, %x): %d by %d, %d pixels, %v", kind, w, h, len(b), short(b), m.W, m.H, len(m.Pix), err)
	}
}

// refused fails unless Decode answers an error, and no picture.
func refused(t *testing.T, kind uint8, w, h int, b []byte, want api.Errno) {
	t.Helper()
	m, err := codec.Decode(kind, w, h, b)
	if err != want || m.W != 0 || m.H != 0 || len(m.Pix) != 0 {
		t.Fatalf("Decode(%d, %d, %d, %d bytes, %x): %d by %d, %d pixels, %v; want %v", kind, w, h, len(b), short(b), m.W, m.H, len(m.Pix), err, want)
	}
}

// asModel fails unless Decode answers what the model does, for a kind and a size that may be.
func asModel(t *testing.T, kind uint8, w, h int, b []byte) bool {
	t.Helper()
	want, is := pixelsOf(kind, b, w*h)
	if is {
		decoded(t, kind, w, h, b, want)
	} else {
		refused(t, kind, w, h, b, api.ErrData)
	}
	return is
}

// noPicture fails unless Encode answers ErrArg, and nothing beside it.
func noPicture(t *testing.T, m api.Image) {
	t.Helper()
	if kind, b, err := codec.Encode(m); kind != 0 || len(b) != 0 || err != api.ErrArg {
		t.Errorf("Encode of %d by %d with %d pixels: %d, %x, %v", m.W, m.H, len(m.Pix), kind, short(b), err)
	}
}

// P13.1

func TestEncode(t *testing.T) {
	a, b := uint32(0x010203), uint32(0x040506)
	for _, c := range []struct {
		w, h int
		pix  []uint32
		kind uint8
		want []byte
	}{
		{1, 1, []uint32{a}, 1, []byte{1, 2, 3}},
		{1, 1, []uint32{0}, 1, []byte{0, 0, 0}},
		{1, 1, []uint32{0xff112233}, 1, []byte{0x11, 0x22, 0x33}},
		{2, 1, []uint32{a, b}, 1, []byte{1, 2, 3, 4, 5, 6}},
		{1, 2, []uint32{b, a}, 1, []byte{4, 5, 6, 1, 2, 3}},
		{4, 4, slices.Repeat([]uint32{a}, 16), 2, []byte{15, 1, 2, 3}},
		{1, 2, []uint32{a, a | 0x55000000}, 2, []byte{1, 1, 2, 3}},
		{16, 16, slices.Repeat([]uint32{b}, 256), 2, []byte{255, 4, 5, 6}},
		// The palette of one colour has four bytes, however many pixels there are; the runs are ahead where they have as many.
		{257 - 1, 2, slices.Repeat([]uint32{b}, 512), 3, []byte{0, 4, 5, 6}},
		{4, 1, []uint32{a, b, a, b}, 3, []byte{1, 1, 2, 3, 4, 5, 6, 10}},
		{2, 2, []uint32{a, b, b, b}, 2, []byte{0, 1, 2, 3, 2, 4, 5, 6}},
		{3, 1, []uint32{a, b, a}, 3, []byte{1, 1, 2, 3, 4, 5, 6, 2}},
	} {
		kind, got, err := codec.Encode(api.Image{W: c.w, H: c.h, Pix: c.pix})
		if kind != c.kind || !bytes.Equal(got, c.want) || err != api.OK {
			t.Errorf("Encode of %d by %d, %x: %d, %x, %v", c.w, c.h, c.pix, kind, got, err)
		}
		encoded(t, c.w, c.h, c.pix)
	}
}

// Where two kinds take as many bytes, and none fewer, the least is taken.
func TestEncodeTakesTheLeastOfSeveral(t *testing.T) {
	for _, c := range []struct {
		w     int
		pix   []uint32
		kinds []uint8
	}{
		{5, []uint32{0xf1e2d3, 0xa4b5c6, 0x978889, 0xf1e2d3, 0xdadbdc}, []uint8{1, 3}},
		{7, slices.Repeat([]uint32{0x123456}, 7), []uint8{2, 3}},
		{8, []uint32{1, 1, 1, 1, 2, 2, 2, 2}, []uint8{2, 3}},
	} {
		kind, _, kinds := encoded(t, c.w, 1, c.pix)
		if kind != c.kinds[0] || len(kinds) < 2 || kinds[0] != c.kinds[0] || kinds[1] != c.kinds[1] {
			t.Errorf("%x: the kind %d of %d", c.pix, kind, kinds)
		}
	}
}

func TestEncodeOfManyPictures(t *testing.T) {
	n := numbers(131)
	taken, ties := [5]int{}, map[[2]uint8]int{}
	look := func(w, h int, pix []uint32) {
		t.Helper()
		kind, _, kinds := encoded(t, w, h, pix)
		taken[kind]++
		if len(kinds) > 1 {
			ties[[2]uint8(kinds)]++
		}
	}
	for range 2000 {
		w, h := 1+n.below(9), 1+n.below(9)
		look(w, h, n.of(w*h, 1+n.below(9), n.pixels(1+n.below(40))))
		look(w, h, n.slope(w*h, 1+n.below(w), 1+n.below(9)))
	}
	for range 200 {
		w, h := 1+n.below(40), 1+n.below(40)
		look(w, h, n.of(w*h, 1+n.below(30), n.pixels(1+n.below(40))))
		look(w, h, n.slope(w*h, w, 1+n.below(0x010101)))
		look(w, h, n.pixels(w*h))
	}
	for kind, count := range taken[1:] {
		if count < 100 {
			t.Errorf("the kind %d was taken %d times", kind+1, count)
		}
	}
	for _, kinds := range [][2]uint8{{1, 3}, {1, 4}, {2, 3}, {2, 4}, {3, 4}} {
		if ties[kinds] == 0 {
			t.Errorf("the kinds %d never took as many bytes", kinds)
		}
	}
}

func TestEncodeOfAllSizes(t *testing.T) {
	n := numbers(132)
	for _, side := range []int{1, 2, 3, 15, 16, 17, 85, 86, 255, 256} {
		for _, other := range []int{1, 2, 3, 16} {
			encoded(t, side, other, n.of(side*other, 9, n.pixels(20)))
			encoded(t, other, side, n.of(side*other, 2, n.pixels(7)))
		}
	}
}

func TestEncodeOfTheGreatest(t *testing.T) {
	n := numbers(133)
	for _, c := range []struct {
		kind uint8
		pix  []uint32
	}{
		{1, n.pixels(most)},
		{3, slices.Repeat([]uint32{0xabcdef}, most)},
		{4, slices.Repeat([]uint32{1, 2}, most/2)},
		{4, n.slope(most, 256, 0x010203)},
	} {
		if kind, _, _ := encoded(t, 256, 256, c.pix); kind != c.kind {
			t.Errorf("the kind %d, not %d", kind, c.kind)
		}
	}
}

func TestEncodeOfPicturesThatMayNotBe(t *testing.T) {
	n := numbers(134)
	far := []int{0, -1, -2, -256, 257, 258, 512, 65536, 1 << 31, 1 << 32, 1<<32 + 1, 1 << 62, math.MaxInt, math.MinInt}
	for _, w := range far {
		for _, h := range append([]int{1, 2, 256}, far...) {
			for _, pixels := range []int{0, 1, 2, 256, 257, 514} {
				noPicture(t, api.Image{W: w, H: h, Pix: n.pixels(pixels)})
				noPicture(t, api.Image{W: h, H: w, Pix: n.pixels(pixels)})
			}
		}
	}
	// There are just so many pixels as the product, though the sides may not be.
	for _, c := range [][3]int{{257, 1, 257}, {1, 257, 257}, {300, 2, 600}, {-1, -1, 1}, {-2, -3, 6}, {0, 0, 0}, {0, 5, 0}, {5, 0, 0}, {1 << 32, 1 << 32, 0}, {65537, 1, 65537}} {
		noPicture(t, api.Image{W: c[0], H: c[1], Pix: n.pixels(c[2])})
	}
	// There are more or fewer.
	for _, c := range [][2]int{{1, 1}, {1, 2}, {3, 5}, {16, 16}, {256, 1}, {256, 256}} {
		size := c[0] * c[1]
		for _, pixels := range []int{0, size - 1, size + 1, 2 * size, 3 * size} {
			noPicture(t, api.Image{W: c[0], H: c[1], Pix: n.pixels(pixels)})
		}
	}
	noPicture(t, api.Image{})
}

// P13.2

func TestDecode(t *testing.T) {
	six := []byte{1, 2, 3, 4, 5, 6}
	decoded(t, 1, 2, 1, six, []uint32{0x010203, 0x040506})
	decoded(t, 1, 1, 2, six, []uint32{0x010203, 0x040506})
	decoded(t, 2, 4, 4, []byte{15, 1, 2, 3}, slices.Repeat([]uint32{0x010203}, 16))
	decoded(t, 3, 4, 1, []byte{1, 1, 2, 3, 4, 5, 6, 10}, []uint32{0x010203, 0x040506, 0x010203, 0x040506})
	decoded(t, 4, 1, 1, []byte{0x4b, 0x4c, 0x4a, 0x06, 0x00}, []uint32{0x616263})
	refused(t, 1, 2, 1, six[:5], api.ErrData)
	refused(t, 1, 1, 1, six, api.ErrData)
	refused(t, 5, 2, 1, six, api.ErrKind)
	refused(t, 1, 0, 1, nil, api.ErrArg)
	refused(t, 4, 1, 1, []byte{3, 0}, api.ErrData)
	refused(t, 4, 2, 1, []byte{0x4b, 0x4c, 0x4a, 0x06, 0x00}, api.ErrData)
	refused(t, 4, 1, 1, []byte{0x4b, 0x4c, 0x4a, 0x06, 0x00, 0x00}, api.ErrData)
}

// The errors stand in an order: the size is looked at first, and then the kind, whatever the bytes are.
func TestDecodeTellsTheFirstError(t *testing.T) {
	whole := map[uint8][]byte{1: {1, 2, 3}, 2: {0, 1, 2, 3}, 3: {0, 1, 2, 3}, 4: {0x4b, 0x4c, 0x4a, 0x06, 0x00}}
	sides := []int{0, -1, -256, 257, 258, 512, 65536, 1 << 32, 1<<32 + 1, 1 << 62, math.MaxInt, math.MinInt}
	for kind := range 256 {
		k := uint8(kind)
		for _, b := range [][]byte{nil, {}, {1, 2, 3}, whole[1], whole[2], whole[4]} {
			for _, side := range sides {
				for _, other := range append([]int{1, 256}, sides...) {
					refused(t, k, side, other, b, api.ErrArg)
					refused(t, k, other, side, b, api.ErrArg)
				}
			}
			if kind < 1 || kind > 4 {
				refused(t, k, 1, 1, b, api.ErrKind)
				refused(t, k, 256, 256, b, api.ErrKind)
			} else {
				asModel(t, k, 1, 1, b)
				asModel(t, k, 256, 256, b)
			}
		}
	}
}

func TestDecodeOfPlainBytes(t *testing.T) {
	n := numbers(135)
	for _, c := range [][2]int{{1, 1}, {2, 1}, {1, 3}, {5, 7}, {16, 16}, {256, 1}, {1, 256}, {256, 256}} {
		size := c[0] * c[1]
		pix := lowOf(n.pixels(size))
		b := plainOf(pix)
		decoded(t, 1, c[0], c[1], b, pix)
		for _, fewer := range []int{0, 1, size, 3*size - 3, 3*size - 2, 3*size - 1} {
			refused(t, 1, c[0], c[1], b[:fewer], api.ErrData)
		}
		for more := 1; more < 9; more++ {
			refused(t, 1, c[0], c[1], append(b[:len(b):len(b)], make([]byte, more)...), api.ErrData)
		}
	}
	refused(t, 1, 1, 1, nil, api.ErrData)
	refused(t, 1, 256, 256, make([]byte, 1<<22), api.ErrData)
}

// Each kind's bytes are read as that kind's alone, for each size that has as many pixels, and for others.
func TestDecodeOfEachKind(t *testing.T) {
	n := numbers(136)
	for range 300 {
		w, h := 1+n.below(12), 1+n.below(12)
		pix := n.of(w*h, 4, n.pixels(1+n.below(16)))
		for i, b := range kindsOf(pix) {
			kind := uint8(i + 1)
			if len(b) == 0 {
				continue
			}
			decoded(t, kind, w, h, b, lowOf(pix))
			decoded(t, kind, h, w, b, lowOf(pix))
			for other := uint8(1); other <= 4; other++ {
				asModel(t, other, w, h, b)
			}
			for _, side := range [][2]int{{w + 1, h}, {w, h + 1}, {1, 1}, {256, 256}} {
				asModel(t, kind, side[0], side[1], b)
			}
		}
	}
}

// All that is missing at an end, or stands behind it, makes the bytes none of that kind.
func TestDecodeOfPartsAndOfMore(t *testing.T) {
	n := numbers(137)
	for range 60 {
		w, h := 1+n.below(9), 1+n.below(9)
		pix := n.of(w*h, 3, n.pixels(2+n.below(14)))
		for i, b := range kindsOf(pix) {
			if len(b) == 0 {
				continue
			}
			for size := range len(b) {
				if asModel(t, uint8(i+1), w, h, b[:size]) {
					t.Fatalf("%d of %d bytes, %x, of the kind %d are taken", size, len(b), b, i+1)
				}
			}
			for _, behind := range [][]byte{{0}, {255}, {3, 0}, {0, 0, 0, 0}, n.bytes(1 + n.below(30)), b} {
				refused(t, uint8(i+1), w, h, append(b[:len(b):len(b)], behind...), api.ErrData)
			}
		}
	}
}

func TestDecodeOfBytesInWhichOneIsTurned(t *testing.T) {
	n := numbers(138)
	for range 60 {
		w, h := 1+n.below(6), 1+n.below(6)
		pix := n.of(w*h, 3, n.pixels(2+n.below(14)))
		for i, b := range kindsOf(pix) {
			for at := range b {
				turned := slices.Clone(b)
				turned[at] ^= 1 << n.below(8)
				asModel(t, uint8(i+1), w, h, turned)
			}
		}
	}
}

func TestDecodeOfChance(t *testing.T) {
	n := numbers(139)
	for range 20000 {
		b := n.bytes(n.below(20))
		for kind := uint8(1); kind <= 4; kind++ {
			asModel(t, kind, 1+n.below(4), 1+n.below(3), b)
		}
	}
}

// stream is a deflated stream that others made of bytes, at one of their levels.
func stream(t *testing.T, b []byte, level int) []byte {
	t.Helper()
	var out bytes.Buffer
	w, err := flate.NewWriter(&out, level)
	if err != nil {
		t.Fatal(err)
	}
	if _, err = w.Write(b); err != nil {
		t.Fatal(err)
	}
	if err = w.Close(); err != nil {
		t.Fatal(err)
	}
	return out.Bytes()
}

// A stream need not be the one that Encode would make; but just so many bytes come out of it, and nothing stands behind.
func TestDecodeOfOtherStreams(t *testing.T) {
	n := numbers(140)
	for range 15 {
		w, h := 1+n.below(60), 1+n.below(60)
		pix := n.of(w*h, 9, n.pixels(1+n.below(60)))
		plain := plainOf(pix)
		for level := flate.HuffmanOnly; level <= flate.BestCompression; level++ {
			b := stream(t, plain, level)
			decoded(t, 4, w, h, b, lowOf(pix))
			refused(t, 4, w, h, append(b[:len(b):len(b)], 0), api.ErrData)
			refused(t, 4, w, h, b[:len(b)-1], api.ErrData)
			for _, c := range [][]byte{plain[:len(plain)-1], plain[:len(plain)-3], nil, append(plain[:len(plain):len(plain)], 7), append(plain[:len(plain):len(plain)], 1, 2, 3)} {
				refused(t, 4, w, h, stream(t, c, level), api.ErrData)
			}
		}
	}
}

func TestDecodeOfTheGreatest(t *testing.T) {
	n := numbers(141)
	pix := n.of(most, 300, n.pixels(16))
	for i, b := range kindsOf(pix) {
		decoded(t, uint8(i+1), 256, 256, b, lowOf(pix))
		refused(t, uint8(i+1), 256, 256, append(b[:len(b):len(b)], 0), api.ErrData)
		refused(t, uint8(i+1), 256, 256, b[:len(b)-1], api.ErrData)
	}
	// A stream of far more bytes than there are pixels.
	long, _ := deflate.Deflate(make([]byte, api.MaxBody))
	refused(t, 4, 256, 256, long, api.ErrData)
	refused(t, 4, 1, 1, long, api.ErrData)
	for kind := uint8(1); kind <= 4; kind++ {
		refused(t, kind, 1, 1, make([]byte, 1<<22), api.ErrData)
	}
}

// P13.3

func TestWhatIsEncodedIsDecodedAsThePicture(t *testing.T) {
	n := numbers(142)
	for range 400 {
		w, h := 1+n.below(30), 1+n.below(30)
		pix := n.of(w*h, 1+n.below(12), n.pixels(1+n.below(50)))
		kind, b, err := codec.Encode(api.Image{W: w, H: h, Pix: pix})
		if err != api.OK || len(b) > 3*w*h {
			t.Fatalf("%d by %d are %d bytes of the kind %d, %v", w, h, len(b), kind, err)
		}
		decoded(t, kind, w, h, b, lowOf(pix))
	}
}

// Rules

func TestWhatIsHandedInStays(t *testing.T) {
	n := numbers(143)
	for range 300 {
		w, h := 1+n.below(12), 1+n.below(12)
		room := n.of(w*h+n.below(9), 5, n.pixels(1+n.below(30)))
		m := api.Image{W: w, H: h, Pix: room[:w*h]}
		kept := slices.Clone(room)
		kind, first, _ := codec.Encode(m)
		_, again, _ := codec.Encode(m)
		_, want, _ := bestOf(m.Pix)
		scribble(first, 0xee)
		if _, third, _ := codec.Encode(m); !slices.Equal(room, kept) || !bytes.Equal(again, want) || !bytes.Equal(third, want) {
			t.Fatal("Encode changed what it was handed, or shares what it answers")
		}
		for i, b := range append(kindsOf(m.Pix), again) {
			k := uint8(i + 1)
			if i == 4 {
				k = kind
			}
			bytesRoom := append(b, n.bytes(9)...)
			keptBytes := slices.Clone(bytesRoom)
			one, err := codec.Decode(k, w, h, bytesRoom[:len(b)])
			two, _ := codec.Decode(k, w, h, bytesRoom[:len(b)])
			scribble(one.Pix, 0xeeeeee)
			if !bytes.Equal(bytesRoom, keptBytes) || err == api.OK && !slices.Equal(two.Pix, lowOf(m.Pix)) {
				t.Fatal("Decode changed what it was handed, or shares what it answers")
			}
			asModel(t, k, w, h, bytesRoom[:len(b)])
		}
	}
}

// scribble writes over a list, and over the room behind its end.
func scribble[T any](l []T, by T) {
	l = l[:cap(l)]
	for i := range l {
		l[i] = by
	}
}
