package update_test

import (
	"bytes"
	"math"
	"slices"
	"testing"

	"vignette/api"
	"vignette/codec"
	"vignette/update"
)

func at(x, y, w, h int) api.Rect { return api.Rect{X: x, Y: y, W: w, H: h} }

func copyTo(x, y, w, h, dx, dy int) api.Copy { return api.Copy{To: at(x, y, w, h), DX: dx, DY: dy} }

func image(w, h int, pix ...uint32) api.Image { return api.Image{W: w, H: h, Pix: pix} }

// counted is a picture all of whose pixels are unlike.
func counted(w, h int) api.Image {
	m := api.Image{W: w, H: h}
	for i := range w * h {
		m.Pix = append(m.Pix, uint32(i+1)*0x010101&0xffffff)
	}
	return m
}

// short is the beginning of bytes that may be many.
func short(b []byte) []byte { return b[:min(len(b), 60)] }

// made fails unless Make answers what the model does; it answers that.
func made(t *testing.T, l []api.Copy, parts []api.Rect, m api.Image) []byte {
	t.Helper()
	b, err := update.Make(l, parts, m)
	if want := bodyOf(l, parts, m); err != api.OK || !bytes.Equal(b, want) {
		t.Fatalf("Make of %d copies, %d parts, of %d by %d: %d bytes, %x, %v, not %d, %x", len(l), len(parts), m.W, m.H, len(b), short(b), err, len(want), short(want))
	}
	return b
}

// notMade fails unless Make answers an error, and no bytes.
func notMade(t *testing.T, l []api.Copy, parts []api.Rect, m api.Image, want api.Errno) {
	t.Helper()
	if b, err := update.Make(l, parts, m); err != want || len(b) != 0 {
		t.Fatalf("Make of %d copies, %d parts, of %d by %d with %d pixels: %d bytes, %v; want %v", len(l), len(parts), m.W, m.H, len(m.Pix), len(b), err, want)
	}
}

// applied fails unless Apply answers a picture.
func applied(t *testing.T, m api.Image, body []byte, want api.Image) {
	t.Helper()
	if n, err := update.Apply(m, body); err != api.OK || !alike(n, want) {
		t.Fatalf("Apply of %d bytes, %x, to %d by %d: %d by %d, %x, %v, not %x", len(body), short(body), m.W, m.H, n.W, n.H, n.Pix[:min(len(n.Pix), 30)], err, want.Pix[:min(len(want.Pix), 30)])
	}
}

// refused fails unless Apply answers an error, and no picture.
func refused(t *testing.T, m api.Image, body []byte, want api.Errno) {
	t.Helper()
	if n, err := update.Apply(m, body); err != want || n.W != 0 || n.H != 0 || len(n.Pix) != 0 {
		t.Fatalf("Apply of %d bytes, %x, to %d by %d with %d pixels: %d by %d, %d pixels, %v; want %v", len(body), short(body), m.W, m.H, len(m.Pix), n.W, n.H, len(n.Pix), err, want)
	}
}

// asModel fails unless Apply answers what the model does.
func asModel(t *testing.T, m api.Image, body []byte) bool {
	t.Helper()
	want, is, _ := becomes(m, body)
	if is {
		applied(t, m, body, want)
	} else {
		refused(t, m, body, api.ErrBody)
	}
	return is
}

// wrongImages are pictures that may not be.
func wrongImages() []api.Image {
	l := []api.Image{{}}
	for _, c := range [][3]int{
		{1, 1, 0}, {1, 1, 2}, {2, 2, 3}, {2, 2, 5}, {4, 1, 3}, {4, 1, 5}, {256, 256, 65535}, {256, 256, 65537},
		{0, 0, 0}, {0, 1, 0}, {1, 0, 0}, {0, 256, 0}, {-1, -1, 1}, {-1, 1, 1}, {1, -1, 1}, {-2, -3, 6},
		{257, 1, 257}, {1, 257, 257}, {512, 1, 512}, {65537, 1, 65537}, {1 << 32, 1 << 32, 0}, {1<<32 + 1, 1, 1},
		{math.MaxInt, 1, 1}, {1, math.MaxInt, 1}, {math.MinInt, math.MinInt, 0}, {math.MinInt, 2, 0}, {2, math.MinInt, 0}, {math.MaxInt, math.MaxInt, 1},
	} {
		l = append(l, api.Image{W: c[0], H: c[1], Pix: make([]uint32, c[2])})
	}
	return l
}

// wrongRects are no parts of a picture 5 wide, 4 high.
func wrongRects() []api.Rect {
	l := []api.Rect{
		{}, at(0, 0, 0, 1), at(0, 0, 1, 0), at(2, 2, 0, 0), at(0, 0, -1, 1), at(0, 0, 1, -1), at(1, 1, -1, -1), at(5, 4, -5, -4),
		at(-1, 0, 1, 1), at(0, -1, 1, 1), at(-1, 0, 2, 1), at(0, -1, 1, 2), at(-1, -1, 6, 5), at(5, 0, 1, 1), at(0, 4, 1, 1),
		at(0, 0, 6, 1), at(0, 0, 1, 5), at(4, 0, 2, 1), at(0, 3, 1, 2), at(1, 0, 5, 4), at(0, 1, 5, 4), at(0, 0, 4, 5), at(5, 4, 0, 0),
	}
	for _, far := range []int{256, 257, 65535, 65536, 65537, 1 << 32, 1<<32 + 1, 1 << 62, math.MaxInt, math.MaxInt - 1, math.MinInt, math.MinInt + 1, -65535, -65536} {
		l = append(l, at(far, 0, 1, 1), at(0, far, 1, 1), at(0, 0, far, 1), at(0, 0, 1, far), at(far, far, far, far), at(1, 1, far, far), at(far, 0, -far, 1), at(0, far, 1, -far))
	}
	return l
}

// wrongCopies are no copies of a picture 5 wide, 4 high.
func wrongCopies() []api.Copy {
	var l []api.Copy
	for _, r := range wrongRects() {
		l = append(l, api.Copy{To: r}, api.Copy{To: r, DX: 1}, api.Copy{To: r, DY: -1}, api.Copy{To: r, DX: r.X, DY: r.Y}, api.Copy{To: r, DX: r.X - 1, DY: r.Y - 1})
	}
	for _, d := range [][2]int{{1, 0}, {-1, 0}, {0, 1}, {0, -1}} {
		l = append(l, copyTo(0, 0, 5, 4, d[0], d[1]))
	}
	l = append(l, copyTo(2, 1, 2, 2, 3, 0), copyTo(2, 1, 2, 2, -2, 0), copyTo(2, 1, 2, 2, 0, 2), copyTo(2, 1, 2, 2, 0, -2), copyTo(2, 1, 2, 2, 3, 2), copyTo(2, 1, 2, 2, -2, -2))
	for _, far := range []int{255, 256, -255, -256, 65535, 65536, -65536, 1 << 32, 1 << 62, math.MaxInt, math.MinInt, math.MinInt + 2} {
		l = append(l, copyTo(2, 1, 2, 2, far, 0), copyTo(2, 1, 2, 2, 0, far), copyTo(2, 1, 2, 2, far, far))
	}
	return l
}

// P14.1

func TestMake(t *testing.T) {
	two := image(2, 1, 0x010203, 0x040506)
	for _, c := range []struct {
		copies []api.Copy
		parts  []api.Rect
		m      api.Image
		want   []byte
	}{
		{nil, nil, two, []byte{0, 0, 0, 0}},
		{[]api.Copy{}, []api.Rect{}, image(1, 1, 5), []byte{0, 0, 0, 0}},
		{nil, []api.Rect{at(0, 0, 2, 1)}, two, []byte{0, 0, 0, 1, 0, 0, 0, 0, 0, 2, 0, 1, 1, 0, 0, 0, 6, 1, 2, 3, 4, 5, 6}},
		{nil, []api.Rect{at(1, 0, 1, 1)}, two, []byte{0, 0, 0, 1, 0, 1, 0, 0, 0, 1, 0, 1, 1, 0, 0, 0, 3, 4, 5, 6}},
		{nil, []api.Rect{at(0, 0, 1, 1), at(0, 0, 1, 1)}, image(1, 1, 0xff0a0b0c), []byte{0, 0, 0, 2, 0, 0, 0, 0, 0, 1, 0, 1, 1, 0, 0, 0, 3, 10, 11, 12, 0, 0, 0, 0, 0, 1, 0, 1, 1, 0, 0, 0, 3, 10, 11, 12}},
		{[]api.Copy{copyTo(1, 0, 3, 1, 1, 0)}, nil, counted(4, 1), []byte{0, 1, 0, 1, 0, 0, 0, 3, 0, 1, 0, 1, 0, 0, 0, 0}},
		{[]api.Copy{copyTo(0, 0, 1, 1, -255, 0)}, nil, counted(256, 1), []byte{0, 1, 0, 0, 0, 0, 0, 1, 0, 1, 0xff, 1, 0, 0, 0, 0}},
		{[]api.Copy{copyTo(0, 0, 1, 1, 0, -1)}, nil, counted(1, 2), []byte{0, 1, 0, 0, 0, 0, 0, 1, 0, 1, 0, 0, 0xff, 0xff, 0, 0}},
		{[]api.Copy{copyTo(255, 255, 1, 1, 255, 255)}, nil, counted(256, 256), []byte{0, 1, 0, 255, 0, 255, 0, 1, 0, 1, 0, 255, 0, 255, 0, 0}},
		{[]api.Copy{copyTo(0, 0, 256, 256, 0, 0)}, nil, counted(256, 256), []byte{0, 1, 0, 0, 0, 0, 1, 0, 1, 0, 0, 0, 0, 0, 0, 0}},
		{nil, []api.Rect{at(0, 0, 16, 16)}, image(16, 16, slices.Repeat([]uint32{7}, 256)...), []byte{0, 0, 0, 1, 0, 0, 0, 0, 0, 16, 0, 16, 2, 0, 0, 0, 4, 255, 0, 0, 7}},
	} {
		b, err := update.Make(c.copies, c.parts, c.m)
		if err != api.OK || !bytes.Equal(b, c.want) {
			t.Errorf("Make(%v, %v) of %d by %d: %x, %v", c.copies, c.parts, c.m.W, c.m.H, b, err)
		}
		made(t, c.copies, c.parts, c.m)
	}
}

func TestMakeOfManyPictures(t *testing.T) {
	n := numbers(141)
	for range 1000 {
		w, h := 1+n.below(20), 1+n.below(20)
		m := n.picture(w, h, 1+n.below(40))
		made(t, n.copiesOf(6, w, h), n.partsOf(6, w, h), m)
	}
	for range 20 {
		w, h := 200+n.below(57), 200+n.below(57)
		made(t, n.copiesOf(300, w, h), n.partsOf(5, w, h), n.picture(w, h, 3))
	}
}

// What is in order stays so, and what is told twice is told twice.
func TestMakeKeepsTheOrder(t *testing.T) {
	m := counted(5, 4)
	one, two := copyTo(1, 1, 2, 2, 1, 0), copyTo(0, 0, 3, 3, -1, -1)
	for _, l := range [][]api.Copy{{one, two}, {two, one}, {one, one}, {two, one, two}} {
		for _, parts := range [][]api.Rect{{at(0, 0, 2, 2), at(1, 1, 2, 2)}, {at(1, 1, 2, 2), at(0, 0, 2, 2)}, {at(1, 1, 2, 2), at(1, 1, 2, 2)}} {
			made(t, l, parts, m)
		}
	}
}

func TestMakeOfPicturesThatMayNotBe(t *testing.T) {
	for _, m := range wrongImages() {
		notMade(t, nil, nil, m, api.ErrArg)
		notMade(t, []api.Copy{copyTo(0, 0, 1, 1, 0, 0)}, nil, m, api.ErrArg)
		notMade(t, nil, []api.Rect{at(0, 0, 1, 1)}, m, api.ErrArg)
		notMade(t, nil, []api.Rect{at(0, 0, m.W, m.H)}, m, api.ErrArg)
	}
}

func TestMakeOfWhatIsNoneOfIt(t *testing.T) {
	m := counted(5, 4)
	right, whole := copyTo(1, 1, 2, 2, 1, 0), at(0, 0, 5, 4)
	for _, r := range wrongRects() {
		if lies(m, r) {
			t.Fatalf("%v is a part", r)
		}
		notMade(t, nil, []api.Rect{r}, m, api.ErrArg)
		notMade(t, []api.Copy{right}, []api.Rect{r, whole}, m, api.ErrArg)
		notMade(t, []api.Copy{right}, []api.Rect{whole, whole, r}, m, api.ErrArg)
	}
	for _, c := range wrongCopies() {
		if copies(m, c) {
			t.Fatalf("%v is a copy", c)
		}
		notMade(t, []api.Copy{c}, nil, m, api.ErrArg)
		notMade(t, []api.Copy{c, right}, []api.Rect{whole}, m, api.ErrArg)
		notMade(t, []api.Copy{right, right, c}, []api.Rect{whole}, m, api.ErrArg)
	}
}

// All rectangles near a picture, and all ways to move them, are what the words say.
func TestMakeOfAllThatIsNear(t *testing.T) {
	m := counted(3, 2)
	for x := -1; x <= 3; x++ {
		for y := -1; y <= 2; y++ {
			for w := -1; w <= 4; w++ {
				for h := -1; h <= 3; h++ {
					r := at(x, y, w, h)
					if lies(m, r) {
						made(t, nil, []api.Rect{r}, m)
					} else {
						notMade(t, nil, []api.Rect{r}, m, api.ErrArg)
					}
					for dx := -4; dx <= 4; dx++ {
						for dy := -3; dy <= 3; dy++ {
							c := api.Copy{To: r, DX: dx, DY: dy}
							if copies(m, c) {
								made(t, []api.Copy{c}, nil, m)
							} else {
								notMade(t, []api.Copy{c}, nil, m, api.ErrArg)
							}
						}
					}
				}
			}
		}
	}
}

// fill are parts and copies whose body has so many bytes behind the two counts, of a picture 5 wide, 4 high.
func fill(copies, parts int) ([]api.Copy, []api.Rect) {
	return slices.Repeat([]api.Copy{copyTo(1, 1, 2, 2, 1, 0)}, copies), slices.Repeat([]api.Rect{at(4, 3, 1, 1)}, parts)
}

func TestMakeOfAsManyBytesAsMayBe(t *testing.T) {
	m := counted(5, 4)
	for _, c := range []struct {
		copies, parts, more int
	}{{43689, 1, 0}, {1, 32767, 0}, {43690, 0, 4}, {0, 32767, 12}, {5, 32764, 0}, {20000, 17767, 12}} {
		l, parts := fill(c.copies, c.parts)
		b := made(t, l, parts, m)
		if len(b) != api.MaxBody-c.more {
			t.Fatalf("%d bytes", len(b))
		}
		if c.more == 0 {
			applied(t, m, b, func() api.Image { n, _, _ := becomes(m, b); return n }())
		}
		more, moreParts := fill(c.copies+1, c.parts+1)
		if c.more < 12 {
			notMade(t, more, parts, m, api.ErrLong)
		}
		notMade(t, l, moreParts, m, api.ErrLong)
	}
}

// One byte more than may be is too long, for either call.
func TestOneByteMore(t *testing.T) {
	m := image(5, 4, slices.Repeat([]uint32{9}, 20)...)
	l, _ := fill(43689, 0)
	parts := []api.Rect{at(0, 0, 4, 4)}
	body := bodyOf(l, parts, m)
	if len(body) != api.MaxBody+1 {
		t.Fatal(len(body))
	}
	notMade(t, l, parts, m, api.ErrLong)
	refused(t, m, body, api.ErrBody)
	parts[0] = at(0, 0, 1, 1)
	applied(t, m, made(t, l, parts, m), m)
}

// A part of several pixels takes more bytes than one of a single one.
func TestMakeOfPartsThatAreTooLong(t *testing.T) {
	n := numbers(142)
	m := n.picture(256, 256, 1<<24)
	whole := at(0, 0, 256, 256)
	made(t, nil, []api.Rect{whole, whole}, m)
	notMade(t, nil, []api.Rect{whole, whole, whole}, m, api.ErrLong)
	notMade(t, nil, slices.Repeat([]api.Rect{whole}, 9), m, api.ErrLong)
	// What is left of the 2^19 bytes is filled up to the last three.
	l := []api.Rect{whole, whole, at(0, 0, 256, 170), at(0, 0, 152, 1)}
	for size := len(made(t, nil, l, m)); size <= api.MaxBody-3; size += 3 {
		l[3].W++
	}
	if b := made(t, nil, l, m); len(b) <= api.MaxBody-3 || len(b) > api.MaxBody {
		t.Fatal(len(b))
	}
	l[3].W++
	notMade(t, nil, l, m, api.ErrLong)
}

func TestMakeOfMoreThanMayBe(t *testing.T) {
	m := counted(5, 4)
	for _, c := range []struct {
		copies, parts int
		want          api.Errno
	}{
		{65535, 0, api.ErrLong}, {0, 65535, api.ErrLong}, {65535, 65535, api.ErrLong},
		{65536, 0, api.ErrArg}, {0, 65536, api.ErrArg}, {65536, 65536, api.ErrArg}, {65535, 65536, api.ErrArg}, {65536, 65535, api.ErrArg},
		{65537, 1, api.ErrArg}, {1, 65537, api.ErrArg}, {131072, 0, api.ErrArg}, {0, 131072, api.ErrArg},
	} {
		l, parts := fill(c.copies, c.parts)
		notMade(t, l, parts, m, c.want)
		notMade(t, l, parts, api.Image{}, api.ErrArg)
	}
	// What is wrong is told ahead of what is too long, though it stands last.
	l, parts := fill(65535, 65535)
	notMade(t, append(l[:65534:65534], copyTo(1, 1, 2, 2, 2, 0)), parts, m, api.ErrArg)
	notMade(t, l, append(parts[:65534:65534], at(4, 3, 1, 2)), m, api.ErrArg)
	// So many whole pictures are too long, and nobody waits for their bytes.
	big := api.Image{W: 256, H: 256, Pix: make([]uint32, 65536)}
	notMade(t, nil, slices.Repeat([]api.Rect{at(0, 0, 256, 256)}, 65535), big, api.ErrLong)
}

// P14.2

func TestApply(t *testing.T) {
	two := image(2, 1, 0x010203, 0x040506)
	body := []byte{0, 0, 0, 1, 0, 0, 0, 0, 0, 2, 0, 1, 1, 0, 0, 0, 6, 1, 2, 3, 4, 5, 6}
	applied(t, image(2, 1, 0, 0), body, two)
	applied(t, image(2, 1, 0xffffffff, 7), body, two)
	applied(t, two, []byte{0, 0, 0, 0}, two)
	applied(t, image(2, 1, 0xff000001, 0x01ffffff), []byte{0, 0, 0, 0}, image(2, 1, 1, 0xffffff))
	row := image(4, 1, 11, 12, 13, 14)
	right := []byte{0, 1, 0, 1, 0, 0, 0, 3, 0, 1, 0, 1, 0, 0, 0, 0}
	applied(t, row, right, image(4, 1, 11, 11, 12, 13))
	left := []byte{0, 1, 0, 0, 0, 0, 0, 3, 0, 1, 0xff, 0xff, 0, 0, 0, 0}
	applied(t, row, left, image(4, 1, 12, 13, 14, 14))
	column := image(1, 4, 11, 12, 13, 0xfe00000e)
	down := []byte{0, 1, 0, 0, 0, 1, 0, 1, 0, 3, 0, 0, 0, 1, 0, 0}
	applied(t, column, down, image(1, 4, 11, 11, 12, 13))
	up := []byte{0, 1, 0, 0, 0, 0, 0, 1, 0, 3, 0, 0, 0xff, 0xff, 0, 0}
	applied(t, column, up, image(1, 4, 12, 13, 14, 14))
	for _, b := range [][]byte{nil, {}, {0}, {0, 0}, {0, 0, 0}, {0, 0, 0, 0, 0}, {0, 1, 0, 0}, {0, 0, 0, 1}, body[:22], append(body[:23:23], 0), right[:15], append(right[:16:16], 0)} {
		refused(t, row, b, api.ErrBody)
	}
}

func TestApplyToPicturesThatMayNotBe(t *testing.T) {
	body := []byte{0, 0, 0, 0}
	long := make([]byte, api.MaxBody+1)
	for _, m := range wrongImages() {
		for _, b := range [][]byte{body, nil, {1}, bodyOf(nil, []api.Rect{at(0, 0, 1, 1)}, counted(1, 1)), long} {
			refused(t, m, b, api.ErrArg)
		}
	}
}

func TestApplyOfManyBodies(t *testing.T) {
	n := numbers(143)
	for range 3000 {
		w, h := 1+n.below(12), 1+n.below(12)
		body := made(t, n.copiesOf(5, w, h), n.partsOf(5, w, h), n.picture(w, h, 1+n.below(20)))
		if m := n.picture(w, h, 30); !asModel(t, m, body) {
			t.Fatalf("%x is no body", body)
		}
	}
	for range 20 {
		w, h := 200+n.below(57), 200+n.below(57)
		body := made(t, n.copiesOf(40, w, h), n.partsOf(5, w, h), n.picture(w, h, 3))
		if m := n.picture(w, h, 3000); !asModel(t, m, body) {
			t.Fatal("it is no body")
		}
	}
}

// Each way to move a part within a picture is done all at once, whether it and what it comes from overlap or not.
func TestApplyOfAllCopies(t *testing.T) {
	m := counted(4, 3)
	count := 0
	for x := range 4 {
		for y := range 3 {
			for w := 1; x+w <= 4; w++ {
				for h := 1; y+h <= 3; h++ {
					for fromX := 0; fromX+w <= 4; fromX++ {
						for fromY := 0; fromY+h <= 3; fromY++ {
							c := copyTo(x, y, w, h, x-fromX, y-fromY)
							applied(t, m, append(toldCopies([]api.Copy{c}), 0, 0), copied(m, c))
							count++
						}
					}
				}
			}
		}
	}
	if count != 30*14 {
		t.Errorf("%d copies", count)
	}
}

func TestApplyOfTheFarthestCopies(t *testing.T) {
	m := counted(256, 256)
	for _, c := range []api.Copy{
		copyTo(255, 255, 1, 1, 255, 255), copyTo(0, 0, 1, 1, -255, -255), copyTo(255, 0, 1, 1, 255, -255), copyTo(0, 255, 1, 1, -255, 255),
		copyTo(255, 0, 1, 256, 255, 0), copyTo(0, 0, 256, 1, 0, -255), copyTo(0, 0, 256, 256, 0, 0), copyTo(1, 0, 255, 256, 1, 0), copyTo(0, 1, 256, 255, 0, 1),
		copyTo(0, 0, 255, 255, -1, -1), copyTo(1, 1, 255, 255, 1, 1), copyTo(0, 1, 255, 255, -1, 1), copyTo(1, 0, 255, 255, 1, -1),
	} {
		applied(t, m, made(t, []api.Copy{c}, nil, m), copied(m, c))
	}
}

// What is told later is done to what has become of the picture, copies ahead of all parts.
func TestApplyGoesInOrder(t *testing.T) {
	m := image(4, 1, 1, 2, 3, 4)
	l := []api.Copy{copyTo(1, 0, 1, 1, 1, 0), copyTo(2, 0, 1, 1, 1, 0), copyTo(3, 0, 1, 1, 1, 0)}
	applied(t, m, made(t, l, nil, m), image(4, 1, 1, 1, 1, 1))
	slices.Reverse(l)
	applied(t, m, made(t, l, nil, m), image(4, 1, 1, 1, 2, 3))
	one := append(append([]byte{0, 0, 0, 2}, toldPart(at(0, 0, 2, 1), 1, []byte{0, 0, 5, 0, 0, 6})...), toldPart(at(1, 0, 2, 1), 1, []byte{0, 0, 7, 0, 0, 8})...)
	applied(t, m, one, image(4, 1, 5, 7, 8, 4))
	both := append(toldCopies([]api.Copy{copyTo(1, 0, 3, 1, 1, 0)}), one[2:]...)
	applied(t, m, both, image(4, 1, 5, 7, 8, 3))
}

// Each count, and each size, is whole: nothing may be missing, and nothing left.
func TestApplyOfPartsOfABody(t *testing.T) {
	n := numbers(144)
	for range 40 {
		w, h := 1+n.below(9), 1+n.below(9)
		m := n.picture(w, h, 1+n.below(20))
		body := made(t, n.copiesOf(4, w, h), n.partsOf(4, w, h), m)
		for size := range body {
			refused(t, m, body[:size], api.ErrBody)
		}
		for _, behind := range [][]byte{{0}, {255}, {0, 0}, {0, 0, 0, 0}, n.bytes(1 + n.below(30)), body} {
			refused(t, m, append(body[:len(body):len(body)], behind...), api.ErrBody)
		}
	}
}

func TestApplyOfWrongCounts(t *testing.T) {
	m := counted(5, 4)
	l, parts := fill(3, 3)
	body := made(t, l, parts, m)
	second := 2 + 3*12
	for _, count := range []int{0, 1, 2, 4, 5, 255, 256, 32767, 32768, 65535} {
		for _, place := range []int{0, second} {
			b := slices.Clone(body)
			copy(b[place:], told(2, count))
			refused(t, m, b, api.ErrBody)
		}
	}
	// Of the last part's own bytes.
	size := len(body) - 3 - 4
	for _, count := range []int{0, 1, 2, 4, 5, 255, 256, 1 << 16, 1 << 24, 1<<31 - 1, 1 << 31, 1<<31 + 3, 1<<32 - 4, 1<<32 - 1} {
		b := slices.Clone(body)
		copy(b[size:], told(4, count))
		refused(t, m, b, api.ErrBody)
	}
	if !asModel(t, m, body) {
		t.Fatal("it is no body")
	}
}

// fitting says whether a copy's numbers, told in two bytes each, are read as others that may not be, or as they are.
func fitting(c api.Copy) bool {
	places, ways := []int{c.To.X, c.To.Y, c.To.W, c.To.H}, []int{c.DX, c.DY}
	return slices.Min(append(places, ways...)) >= -32768 && slices.Max(places) <= 65535 && slices.Max(ways) <= 32767
}

func TestApplyOfWhatIsNoneOfIt(t *testing.T) {
	m := counted(5, 4)
	right := copyTo(1, 1, 2, 2, 1, 0)
	own := []byte{1, 2, 3}
	for _, c := range wrongCopies() {
		if !fitting(c) {
			continue
		}
		for _, l := range [][]api.Copy{{c}, {c, right}, {right, right, c}} {
			refused(t, m, append(toldCopies(l), 0, 0), api.ErrBody)
		}
	}
	for _, r := range wrongRects() {
		if !fitting(api.Copy{To: r}) {
			continue
		}
		for kind := range 6 {
			bad, good := toldPart(r, uint8(kind), own), toldPart(at(4, 3, 1, 1), 1, own)
			refused(t, m, slices.Concat([]byte{0, 0, 0, 1}, bad), api.ErrBody)
			refused(t, m, slices.Concat([]byte{0, 0, 0, 2}, bad, good), api.ErrBody)
			refused(t, m, slices.Concat([]byte{0, 0, 0, 2}, good, bad), api.ErrBody)
		}
	}
	// Own bytes that would tell a part if it lay within.
	for _, r := range []api.Rect{at(0, 0, 6, 1), at(0, 0, 1, 5), at(4, 0, 2, 1), at(0, 3, 1, 2), at(5, 0, 1, 1), at(0, 4, 1, 1), at(65535, 0, 1, 1), at(0, 65535, 1, 1)} {
		refused(t, m, slices.Concat([]byte{0, 0, 0, 1}, toldPart(r, 1, make([]byte, 3*r.W*r.H))), api.ErrBody)
	}
}

// A copy's way is read as from -32768 to 32767, and may be from -255 to 255 alone.
func TestApplyOfAllWays(t *testing.T) {
	m := counted(256, 1)
	tall := counted(1, 256)
	for d := range 65536 {
		b := []byte{0, 1, 0, 0, 0, 0, 0, 1, 0, 1, byte(d / 256), byte(d % 256), 0, 0, 0, 0}
		asModel(t, m, b)
		b[3] = 255
		asModel(t, m, b)
		b[3], b[5], b[10], b[11], b[12], b[13] = 0, 200, 0, 0, byte(d/256), byte(d%256)
		asModel(t, tall, b)
	}
}

func TestApplyOfAllKinds(t *testing.T) {
	n := numbers(145)
	m := counted(6, 5)
	r := at(1, 1, 4, 3)
	for kind := range 256 {
		for _, own := range [][]byte{nil, {1, 2, 3}, {11, 1, 2, 3}, {0, 1, 2, 3}, n.bytes(36), n.bytes(35), n.bytes(37)} {
			asModel(t, m, slices.Concat([]byte{0, 0, 0, 1}, toldPart(r, uint8(kind), own)))
		}
	}
	// A kind that Encode would not choose is taken, if it tells the part.
	one := slices.Repeat([]uint32{0x010203}, 12)
	for kind, own := range map[uint8][]byte{1: bytes.Repeat([]byte{1, 2, 3}, 12), 2: {11, 1, 2, 3}, 3: {0, 1, 2, 3}} {
		applied(t, m, slices.Concat([]byte{0, 0, 0, 1}, toldPart(r, kind, own)), laid(m, r, image(4, 3, one...)))
	}
	for _, kind := range []uint8{0, 5, 255} {
		refused(t, m, slices.Concat([]byte{0, 0, 0, 1}, toldPart(r, kind, []byte{11, 1, 2, 3})), api.ErrBody)
	}
}

func TestApplyOfAsManyBytesAsMayBe(t *testing.T) {
	m := counted(5, 4)
	l, parts := fill(43690, 0)
	body := bodyOf(l, parts, m)
	applied(t, m, body, func() api.Image { n, _, _ := becomes(m, body); return n }())
	for _, c := range [][2]int{{43689, 2}, {43690, 1}, {43691, 0}, {2, 32767}, {1, 32768}, {0, 32768}, {65535, 0}, {65535, 65535}} {
		l, parts := fill(c[0], c[1])
		body := bodyOf(l, parts, m)
		if len(body) <= api.MaxBody {
			t.Fatal(len(body))
		}
		refused(t, m, body, api.ErrBody)
	}
	refused(t, m, make([]byte, api.MaxBody), api.ErrBody)
	refused(t, m, make([]byte, api.MaxBody+1), api.ErrBody)
	refused(t, m, bytes.Repeat([]byte{255}, api.MaxBody), api.ErrBody)
}

// A body of the greatest pictures that can be told in few bytes ends, too.
func TestApplyOfMuchInFewBytes(t *testing.T) {
	m := counted(256, 256)
	part := toldPart(at(0, 0, 256, 256), 3, []byte{0, 1, 2, 3})
	body := slices.Concat(told(2, 0, 2000), bytes.Repeat(part, 2000))
	applied(t, m, body, image(256, 256, slices.Repeat([]uint32{0x010203}, 65536)...))
	l := slices.Repeat([]api.Copy{copyTo(1, 1, 255, 255, 1, 1)}, 3000)
	b := made(t, l, nil, m)
	want := api.Image{W: 256, H: 256}
	for i := range 65536 {
		x, y := i%256, i/256
		want.Pix = append(want.Pix, m.Pix[(y-min(x, y))*256+x-min(x, y)])
	}
	applied(t, m, b, want)
}

// P14.3

func TestWhatDiffersMakesOneOfTheOther(t *testing.T) {
	n := numbers(146)
	for range 500 {
		w, h := 1+n.below(12), 1+n.below(12)
		one, two := n.picture(w, h, 1+n.below(4)), n.picture(w, h, 1+n.below(4))
		if n.below(2) == 0 {
			two = laid(one, n.part(w, h), two)
		}
		l := unlike(one, two)
		for _, parts := range [][]api.Rect{l, append(n.partsOf(5, w, h), l...), append(slices.Clone(l), n.partsOf(5, w, h)...), {at(0, 0, w, h)}} {
			body, err := update.Make(nil, parts, two)
			if err != api.OK {
				t.Fatal(err)
			}
			applied(t, one, body, low(two))
		}
		// With copies, what differs is what they left.
		copies := n.copiesOf(4, w, h)
		between := one
		for _, c := range copies {
			between = copied(between, c)
		}
		body, err := update.Make(copies, unlike(between, two), two)
		if err != api.OK {
			t.Fatal(err)
		}
		applied(t, one, body, low(two))
	}
	one, two := n.picture(256, 256, 1<<24), n.picture(256, 256, 1<<24)
	body, err := update.Make(nil, []api.Rect{at(0, 0, 100, 256), at(90, 0, 166, 256)}, two)
	if err != api.OK {
		t.Fatal(err)
	}
	applied(t, one, body, low(two))
}

// P14.4

// held fails unless what comes of any bytes has the picture's size, and is it where nothing was told.
func held(t *testing.T, m api.Image, body []byte) bool {
	t.Helper()
	if !asModel(t, m, body) {
		return false
	}
	_, _, touched := becomes(m, body)
	n, err := update.Apply(m, body)
	if err != api.OK || n.W != m.W || n.H != m.H || len(n.Pix) != len(m.Pix) {
		t.Fatalf("%d by %d, %d pixels, %v", n.W, n.H, len(n.Pix), err)
	}
	for i, p := range n.Pix {
		x, y := i%m.W, i/m.W
		if !slices.ContainsFunc(touched, func(r api.Rect) bool { return in(r, x, y) }) && p != m.Pix[i]&0xffffff {
			t.Fatalf("the pixel at %d, %d is %x, not %x", x, y, p, m.Pix[i])
		}
		if p > 0xffffff {
			t.Fatalf("the pixel at %d, %d is %x", x, y, p)
		}
	}
	return true
}

func TestAnyBytes(t *testing.T) {
	n := numbers(147)
	for range 30000 {
		m := n.picture(1+n.below(5), 1+n.below(5), 9)
		held(t, m, n.bytes(n.below(40)))
		held(t, m, append([]byte{0, byte(n.below(2))}, n.bytes(n.below(40))...))
	}
	taken, left := 0, 0
	for range 3000 {
		w, h := 1+n.below(6), 1+n.below(6)
		m := n.picture(w, h, 1+n.below(20))
		body := made(t, n.copiesOf(3, w, h), n.partsOf(3, w, h), n.picture(w, h, 1+n.below(20)))
		held(t, m, body)
		for range 20 {
			b := slices.Clone(body)
			b[n.below(len(b))] ^= 1 << n.below(8)
			if held(t, m, b) {
				taken++
			} else {
				left++
			}
		}
	}
	if taken < 1000 || left < 1000 {
		t.Errorf("%d bodies were taken, %d were not", taken, left)
	}
}

// Rules

func TestWhatIsHandedInStays(t *testing.T) {
	n := numbers(148)
	for range 300 {
		w, h := 1+n.below(9), 1+n.below(9)
		m := n.picture(w, h, 20)
		pixRoom := append(m.Pix, n.picture(9, 1, 20).Pix...)
		m.Pix = pixRoom[:w*h]
		copyRoom, partRoom := append(n.copiesOf(4, w, h), n.copyOf(w, h)), append(n.partsOf(4, w, h), n.part(w, h))
		l, parts := copyRoom[:len(copyRoom)-1], partRoom[:len(partRoom)-1]
		pix, keptCopies, keptParts := slices.Clone(pixRoom), slices.Clone(copyRoom), slices.Clone(partRoom)
		first, _ := update.Make(l, parts, m)
		again, _ := update.Make(l, parts, m)
		scribble(first, 0xee)
		if !slices.Equal(pixRoom, pix) || !slices.Equal(copyRoom, keptCopies) || !slices.Equal(partRoom, keptParts) || !bytes.Equal(again, bodyOf(l, parts, m)) {
			t.Fatal("Make changed what it was handed, or shares what it answers")
		}
		bodyRoom := append(again, n.bytes(9)...)
		body, keptBody := bodyRoom[:len(again)], slices.Clone(bodyRoom)
		want, _, _ := becomes(m, body)
		one, _ := update.Apply(m, body)
		two, _ := update.Apply(m, body)
		scribble(one.Pix, 0xeeeeee)
		if !slices.Equal(pixRoom, pix) || !bytes.Equal(bodyRoom, keptBody) || !alike(two, want) {
			t.Fatal("Apply changed what it was handed, or shares what it answers")
		}
	}
}

// A body that is refused at its very end leaves the picture as it was.
func TestARefusedBodyChangesNothing(t *testing.T) {
	m := counted(5, 4)
	l, parts := fill(3, 3)
	body := append(bodyOf(l, parts, m), 0)
	refused(t, m, body, api.ErrBody)
	if !alike(m, counted(5, 4)) {
		t.Error("the picture changed")
	}
}

// scribble writes over a list, and over the room behind its end.
func scribble[T any](l []T, by T) {
	l = l[:cap(l)]
	for i := range l {
		l[i] = by
	}
}

// The model's parts are told as codec tells them.
func TestPartsAreToldByCodec(t *testing.T) {
	m := counted(20, 20)
	for _, r := range []api.Rect{at(0, 0, 20, 20), at(3, 4, 10, 11), at(19, 19, 1, 1)} {
		kind, own, _ := codec.Encode(partOf(m, r))
		if b := made(t, nil, []api.Rect{r}, m); b[12] != kind || !bytes.HasSuffix(b, own) {
			t.Errorf("%x", b)
		}
	}
}
