package pixbuf_test

import (
	"math"
	"slices"
	"testing"

	"vignette/api"
	"vignette/pixbuf"
	"vignette/rect"
	"vignette/region"
)

const side, top = api.MaxSide, api.MaxCoord

func at(x, y, w, h int) api.Rect { return api.Rect{X: x, Y: y, W: w, H: h} }

func image(w, h int, pix ...uint32) api.Image { return api.Image{W: w, H: h, Pix: pix} }

// counted is a picture whose pixels are 1, 2, 3 and so on, row by row.
func counted(w, h int) api.Image {
	m := image(w, h)
	for i := range w * h {
		m.Pix = append(m.Pix, uint32(i+1))
	}
	return m
}

func alike(a, b api.Image) bool { return a.W == b.W && a.H == b.H && slices.Equal(a.Pix, b.Pix) }

// from is a buffer of a picture that may be.
func from(t *testing.T, m api.Image) *pixbuf.Buf {
	t.Helper()
	b, e := pixbuf.From(m)
	if b == nil || e != api.OK {
		t.Fatalf("From a picture %d by %d: %v", m.W, m.H, e)
	}
	return b
}

// shows fails unless a buffer has that picture, by all calls that tell it.
func shows(t *testing.T, call string, b *pixbuf.Buf, want api.Image) {
	t.Helper()
	if got := b.Image(); !alike(got, want) || b.W() != want.W || b.H() != want.H {
		t.Fatalf("behind %s the picture is %v, %d by %d, not %v", call, got, b.W(), b.H(), want)
	}
	for i, c := range want.Pix {
		if got, e := b.At(i%want.W, i/want.W); got != c || e != api.OK {
			t.Fatalf("behind %s the pixel %d %d is %d, %v, not %d", call, i%want.W, i/want.W, got, e, c)
		}
	}
}

// repainted is a picture each pixel of which is what told says of its place and of what it was.
func repainted(m api.Image, told func(x, y int, old uint32) uint32) api.Image {
	n := image(m.W, m.H)
	for i, c := range m.Pix {
		n.Pix = append(n.Pix, told(i%m.W, i/m.W, c))
	}
	return n
}

// find is the pixel of a picture that stands x0 and y0 less than x, y; it is looked for place by place, as the
// difference might wrap.
func find(m api.Image, x, y, x0, y0 int) (uint32, bool) {
	for i, c := range m.Pix {
		if x-i%m.W == x0 && y-i/m.W == y0 {
			return c, true
		}
	}
	return 0, false
}

// The chapter's words, pixel by pixel.

func filled(m api.Image, r api.Rect, c uint32) api.Image {
	return repainted(m, func(x, y int, old uint32) uint32 {
		if rect.Has(r, x, y) {
			return c % (1 << 24)
		}
		return old
	})
}

func blitted(m api.Image, x0, y0 int, o api.Image, clip api.Rect) api.Image {
	return repainted(m, func(x, y int, old uint32) uint32 {
		if c, ok := find(o, x, y, x0, y0); ok && rect.Has(clip, x, y) {
			return c % (1 << 24)
		}
		return old
	})
}

func copied(m api.Image, c api.Copy) (api.Image, api.Errno) {
	if rect.Empty(c.To) {
		return m, api.OK
	}
	if c.To.X < 0 || c.To.Y < 0 || c.To.X+c.To.W > m.W || c.To.Y+c.To.H > m.H {
		return m, api.ErrRange
	}
	e := api.OK
	n := repainted(m, func(x, y int, old uint32) uint32 {
		if !rect.Has(c.To, x, y) {
			return old
		}
		for i, taken := range m.Pix {
			if x-i%m.W == c.DX && y-i/m.W == c.DY {
				return taken
			}
		}
		e = api.ErrRange
		return old
	})
	if e != api.OK {
		return m, e
	}
	return n, e
}

func partOf(m api.Image, r api.Rect) (api.Image, api.Errno) {
	if rect.Empty(r) || r.X < 0 || r.Y < 0 || r.X+r.W > m.W || r.Y+r.H > m.H {
		return api.Image{}, api.ErrRange
	}
	p := image(r.W, r.H)
	for y := r.Y; y < r.Y+r.H; y++ {
		for x := r.X; x < r.X+r.W; x++ {
			p.Pix = append(p.Pix, m.Pix[y*m.W+x])
		}
	}
	return p, api.OK
}

// wrongRects are rectangles that have no pixels.
func wrongRects() []api.Rect {
	return []api.Rect{
		{}, at(0, 0, 0, 2), at(0, 0, 2, 0), at(1, 1, -1, 1), at(1, 1, 1, -1), at(2, 2, -2, -2), at(0, 0, math.MinInt, 1), at(0, 0, 1, math.MinInt),
		at(1, 0, math.MaxInt, 1), at(0, 1, 1, math.MaxInt), at(math.MinInt, 0, math.MinInt, 2), at(math.MinInt, math.MinInt, math.MaxInt, math.MaxInt),
		at(-top-1, 0, top+5, 4), at(0, -top-1, 4, top+5), at(-top, 0, 2*top+1, 4), at(0, 0, 4, top+1), at(math.MaxInt, 0, math.MaxInt, 4),
	}
}

// wrongImages are no pictures.
func wrongImages() []api.Image {
	return []api.Image{
		{}, image(1, 1), image(0, 0, 1), image(0, 1), image(1, 0), image(1, 1, 1, 2), image(2, 2, 1, 2, 3), image(2, 2, 1, 2, 3, 4, 5), image(-1, -1, 1), image(-2, -3, 1, 2, 3, 4, 5, 6),
		image(-1, 1), image(1, -1, 7), counted(side+1, 1), counted(1, side+1), counted(side+1, side+1), counted(2*side, side/2), image(math.MaxInt, math.MaxInt, 1),
		image(math.MinInt, 2), image(1<<32, 1<<32), image(1<<62, 4), image(math.MinInt, math.MinInt), image(math.MaxInt, 1), image(side, side, 1),
	}
}

// far are numbers past any picture, and past the bounds of numbers' sums.
func far() []int {
	return []int{math.MinInt, math.MinInt + 1, math.MinInt + side, -4 * top, -top - 1, -top, -side - 1, -side, side, side + 1, top, top + 1, 4 * top, math.MaxInt - side, math.MaxInt - 1, math.MaxInt}
}

// dice are numbers that are the same in every run.
type dice uint64

func (d *dice) below(n int) int {
	*d = *d*6364136223846793005 + 1442695040888963407
	return int(uint64(*d)>>33) % n
}

// some is a small picture; its numbers are few, with bits past a colour's in some of them.
func (d *dice) some() api.Image {
	m := image(1+d.below(6), 1+d.below(6))
	for range m.W * m.H {
		m.Pix = append(m.Pix, uint32(d.below(4))|uint32(d.below(2))<<24)
	}
	return m
}

func (d *dice) rect() api.Rect {
	if d.below(12) == 0 {
		return wrongRects()[d.below(len(wrongRects()))]
	}
	return at(d.below(9)-2, d.below(9)-2, d.below(7), d.below(7))
}

func (d *dice) place() int {
	if d.below(30) == 0 {
		return far()[d.below(len(far()))]
	}
	return d.below(13) - 6
}

// P3.1

func TestNewOfAnySize(t *testing.T) {
	good := []int{1, 2, 3, side - 1, side}
	for _, w := range good {
		for _, h := range good {
			b, e := pixbuf.New(w, h)
			if b == nil || e != api.OK {
				t.Fatalf("New(%d, %d): %v", w, h, e)
			}
			shows(t, "New", b, image(w, h, make([]uint32, w*h)...))
		}
		for _, wrong := range append(far(), 0, -1, side+1, 1<<32+1) {
			if wrong == side {
				continue
			}
			for _, size := range [][2]int{{w, wrong}, {wrong, w}, {wrong, wrong}} {
				if b, e := pixbuf.New(size[0], size[1]); b != nil || e != api.ErrArg {
					t.Errorf("New(%d, %d): %v, %v", size[0], size[1], b, e)
				}
			}
		}
	}
}

func TestFrom(t *testing.T) {
	for _, m := range []api.Image{image(1, 1, 5), counted(3, 2), counted(2, 3), counted(side, 1), counted(1, side), counted(side, side)} {
		shows(t, "From", from(t, m), m)
	}
	shows(t, "From", from(t, image(3, 1, 0xffffffff, 0x01000000, 0xab123456)), image(3, 1, 0xffffff, 0, 0x123456))
	for _, m := range wrongImages() {
		if b, e := pixbuf.From(m); b != nil || e != api.ErrArg {
			t.Errorf("From %d by %d with %d pixels: %v, %v", m.W, m.H, len(m.Pix), b, e)
		}
	}
}

func TestClone(t *testing.T) {
	b := from(t, counted(3, 2))
	c := b.Clone()
	shows(t, "Clone", c, counted(3, 2))
	b.Set(0, 0, 70)
	shows(t, "Set of the first", c, counted(3, 2))
	c.Fill(at(2, 1, 1, 1), 80)
	shows(t, "Fill of the clone", b, image(3, 2, 70, 2, 3, 4, 5, 6))
	shows(t, "Fill of the clone", c, image(3, 2, 1, 2, 3, 4, 5, 80))
}

// P3.2

func TestAtSet(t *testing.T) {
	m := counted(3, 2)
	b := from(t, m)
	for i := range m.Pix {
		x, y := i%3, i/3
		if e := b.Set(x, y, 0xff000000|uint32(50+i)); e != api.OK {
			t.Fatalf("Set(%d, %d): %v", x, y, e)
		}
		m.Pix[i] = uint32(50 + i)
		shows(t, "Set", b, m)
	}
	outs := append(far(), -1, 3)
	for _, o := range outs {
		for _, p := range [][2]int{{o, 0}, {0, o}, {o, o}, {2, o}, {o, 1}} {
			if c, e := b.At(p[0], p[1]); c != 0 || e != api.ErrRange {
				t.Errorf("At(%d, %d) is %d, %v", p[0], p[1], c, e)
			}
			if e := b.Set(p[0], p[1], 9); e != api.ErrRange {
				t.Errorf("Set(%d, %d): %v", p[0], p[1], e)
			}
		}
	}
	if _, e := b.At(0, 2); e != api.ErrRange {
		t.Errorf("At(0, 2): %v", e)
	}
	shows(t, "Set out of the picture", b, m)
}

// P3.3

func TestFill(t *testing.T) {
	for _, x := range []struct {
		r    api.Rect
		want []uint32
	}{
		{at(0, 0, 3, 2), []uint32{7, 7, 7, 7, 7, 7}}, {at(2, -5, 9, 9), []uint32{1, 2, 7, 4, 5, 7}}, {at(1, 1, 1, 1), []uint32{1, 2, 3, 4, 7, 6}},
		{at(-4, -4, 5, 5), []uint32{7, 2, 3, 4, 5, 6}}, {at(-4, 1, 9, 5), []uint32{1, 2, 3, 7, 7, 7}}, {at(3, 0, 1, 2), counted(3, 2).Pix}, {at(0, 2, 3, 1), counted(3, 2).Pix},
		{at(-1, 0, 1, 2), counted(3, 2).Pix}, {at(0, -1, 3, 1), counted(3, 2).Pix}, {at(-top, -top, 2*top, 2*top), []uint32{7, 7, 7, 7, 7, 7}},
	} {
		b := from(t, counted(3, 2))
		b.Fill(x.r, 0xab000007)
		shows(t, "Fill", b, image(3, 2, x.want...))
	}
	b := from(t, counted(3, 2))
	for _, r := range wrongRects() {
		b.Fill(r, 7)
		shows(t, "Fill of no pixels", b, counted(3, 2))
	}
	big, _ := pixbuf.New(side, side)
	big.Fill(at(side-1, side-1, 5, 5), 3)
	if c, _ := big.At(side-1, side-1); c != 3 || region.Area(unlike(t, big, from(t, image(side, side, make([]uint32, side*side)...)))) != 1 {
		t.Error("the last pixel of the greatest picture was not filled, or not alone")
	}
}

func TestBlit(t *testing.T) {
	whole, o := at(0, 0, 9, 9), image(2, 2, 0x01000011, 0xff000012, 13, 14)
	for _, x := range []struct {
		x, y int
		clip api.Rect
		want []uint32
	}{
		{0, 0, whole, []uint32{17, 18, 3, 13, 14, 6}}, {1, 0, whole, []uint32{1, 17, 18, 4, 13, 14}}, {2, 1, whole, []uint32{1, 2, 3, 4, 5, 17}},
		{-1, -1, whole, []uint32{14, 2, 3, 4, 5, 6}}, {-1, 1, whole, []uint32{1, 2, 3, 18, 5, 6}}, {2, -1, whole, []uint32{1, 2, 13, 4, 5, 6}},
		{1, 0, at(2, 1, 1, 1), []uint32{1, 2, 3, 4, 5, 14}}, {1, 0, at(0, 0, 2, 9), []uint32{1, 17, 3, 4, 13, 6}}, {0, 0, at(-5, -5, 6, 6), []uint32{17, 2, 3, 4, 5, 6}},
		{3, 0, whole, counted(3, 2).Pix}, {0, 2, whole, counted(3, 2).Pix}, {-2, 0, whole, counted(3, 2).Pix}, {0, -2, whole, counted(3, 2).Pix}, {0, 0, at(2, 0, 1, 2), counted(3, 2).Pix},
		{0, 0, at(-top, -top, 2*top, 2*top), []uint32{17, 18, 3, 13, 14, 6}},
	} {
		b := from(t, counted(3, 2))
		b.Blit(x.x, x.y, o, x.clip)
		shows(t, "Blit", b, image(3, 2, x.want...))
	}
}

func TestBlitOfNothing(t *testing.T) {
	whole := at(-top, -top, 2*top, 2*top)
	b := from(t, counted(3, 2))
	for _, p := range far() {
		b.Blit(p, 0, counted(4, 4), whole)
		b.Blit(0, p, counted(4, 4), whole)
		b.Blit(p, p, counted(side, side), whole)
	}
	for _, m := range wrongImages() {
		b.Blit(0, 0, m, whole)
		b.Blit(-1, -1, m, whole)
	}
	for _, r := range wrongRects() {
		b.Blit(0, 0, image(2, 2, 50, 51, 52, 53), r)
	}
	shows(t, "Blit of nothing", b, counted(3, 2))
	// A picture that is as great as can be, of which one corner lies in the buffer.
	b.Blit(1-side, 1-side, counted(side, side), whole)
	shows(t, "Blit of a corner", b, image(3, 2, side*side, 2, 3, 4, 5, 6))
}

// P3.4

func TestCopy(t *testing.T) {
	for _, x := range []struct {
		to     api.Rect
		dx, dy int
		want   []uint32
	}{
		{at(1, 0, 2, 2), 1, 0, []uint32{1, 1, 2, 4, 4, 5, 7, 8, 9}}, {at(0, 0, 2, 2), -1, 0, []uint32{2, 3, 3, 5, 6, 6, 7, 8, 9}},
		{at(0, 1, 3, 2), 0, 1, []uint32{1, 2, 3, 1, 2, 3, 4, 5, 6}}, {at(0, 0, 3, 2), 0, -1, []uint32{4, 5, 6, 7, 8, 9, 7, 8, 9}},
		{at(1, 1, 2, 2), 1, 1, []uint32{1, 2, 3, 4, 1, 2, 7, 4, 5}}, {at(0, 0, 2, 2), -1, -1, []uint32{5, 6, 3, 8, 9, 6, 7, 8, 9}},
		{at(0, 1, 2, 2), -1, 1, []uint32{1, 2, 3, 2, 3, 6, 5, 6, 9}}, {at(1, 0, 2, 2), 1, -1, []uint32{1, 4, 5, 4, 7, 8, 7, 8, 9}},
		{at(2, 2, 1, 1), 2, 2, []uint32{1, 2, 3, 4, 5, 6, 7, 8, 1}}, {at(0, 0, 3, 3), 0, 0, counted(3, 3).Pix},
	} {
		b := from(t, counted(3, 3))
		if e := b.Copy(api.Copy{To: x.to, DX: x.dx, DY: x.dy}); e != api.OK {
			t.Fatalf("Copy to %v from %d %d: %v", x.to, x.dx, x.dy, e)
		}
		shows(t, "Copy", b, image(3, 3, x.want...))
	}
}

func TestCopyOutOfThePicture(t *testing.T) {
	b := from(t, counted(3, 3))
	refused := func(to api.Rect, dx, dy int) {
		t.Helper()
		if e := b.Copy(api.Copy{To: to, DX: dx, DY: dy}); e != api.ErrRange {
			t.Errorf("Copy to %v from %d %d: %v", to, dx, dy, e)
		}
	}
	refused(at(0, 0, 1, 1), 1, 0)
	refused(at(0, 0, 1, 1), 0, 1)
	refused(at(2, 2, 1, 1), -1, 0)
	refused(at(2, 2, 1, 1), 0, -1)
	refused(at(1, 1, 2, 2), 2, 0)
	refused(at(2, 0, 2, 1), 1, 0)
	refused(at(0, 2, 1, 2), 0, 1)
	refused(at(-1, 0, 2, 1), -1, 0)
	refused(at(0, -1, 1, 2), 0, -1)
	refused(at(3, 0, 1, 1), 1, 0)
	refused(at(0, 0, 4, 4), 0, 0)
	refused(at(-top, -top, 2*top, 2*top), 0, 0)
	for _, n := range append(far(), -3, 3) {
		refused(at(0, 0, 1, 1), n, 0)
		refused(at(2, 2, 1, 1), 0, n)
		refused(at(1, 1, 1, 1), n, n)
	}
	shows(t, "Copy that was refused", b, counted(3, 3))
}

func TestCopyOfNothing(t *testing.T) {
	b := from(t, counted(3, 3))
	for _, r := range append(wrongRects(), at(50, 50, 0, 1), at(-9, 2, 3, 0)) {
		for _, n := range append(far(), 0, 1, -1) {
			if e := b.Copy(api.Copy{To: r, DX: n, DY: -n}); e != api.OK {
				t.Fatalf("Copy to %v from %d: %v", r, n, e)
			}
		}
	}
	shows(t, "Copy of nothing", b, counted(3, 3))
}

// P3.5

func TestPart(t *testing.T) {
	b := from(t, counted(3, 2))
	for _, x := range []struct {
		r    api.Rect
		want []uint32
	}{
		{at(1, 0, 2, 2), []uint32{2, 3, 5, 6}}, {at(0, 0, 3, 2), counted(3, 2).Pix}, {at(2, 1, 1, 1), []uint32{6}}, {at(0, 1, 3, 1), []uint32{4, 5, 6}}, {at(0, 0, 1, 2), []uint32{1, 4}},
	} {
		if m, e := b.Part(x.r); e != api.OK || !alike(m, image(x.r.W, x.r.H, x.want...)) {
			t.Errorf("Part(%v) is %v, %v", x.r, m, e)
		}
	}
	outs := append(wrongRects(), at(-1, 0, 2, 1), at(0, -1, 1, 2), at(2, 0, 2, 1), at(0, 1, 1, 2), at(0, 0, 4, 1), at(0, 0, 1, 3), at(3, 0, 1, 1), at(0, 2, 1, 1), at(-top, -top, 2*top, 2*top), at(1, 1, 0, 1), at(1, 1, 1, 0))
	for _, r := range outs {
		if m, e := b.Part(r); e != api.ErrRange || !alike(m, api.Image{}) {
			t.Errorf("Part(%v) is %v, %v", r, m, e)
		}
	}
}

// P3.6

// unlike is what Diff tells of two, which must be in form.
func unlike(t *testing.T, b, o *pixbuf.Buf) []api.Rect {
	t.Helper()
	l, e := b.Diff(o)
	if e != api.OK || !region.Is(l) {
		t.Fatalf("Diff is %v, %v", l, e)
	}
	return l
}

func TestSame(t *testing.T) {
	pictures := []api.Image{image(1, 1, 0), image(1, 1, 1), image(2, 1, 0, 0), image(1, 2, 0, 0), counted(3, 2), counted(2, 3), counted(6, 1), image(3, 2, 1, 2, 3, 4, 5, 7), image(3, 2, 0, 2, 3, 4, 5, 6)}
	for i, m := range pictures {
		for j, o := range pictures {
			if got := from(t, m).Same(from(t, o)); got != (i == j) {
				t.Errorf("Same of %v and %v is %v", m, o, got)
			}
		}
	}
	if b := from(t, image(1, 1, 1<<24|5)); !b.Same(from(t, image(1, 1, 5))) || !b.Same(b) {
		t.Error("like pictures are not the same")
	}
}

func TestDiff(t *testing.T) {
	zero := image(3, 3, make([]uint32, 9)...)
	for _, x := range []struct {
		pix  []uint32
		want []api.Rect
	}{
		{zero.Pix, nil}, {counted(3, 3).Pix, []api.Rect{at(0, 0, 3, 3)}}, {[]uint32{0, 0, 1, 0, 0, 1, 0, 0, 0}, []api.Rect{at(2, 0, 1, 2)}},
		{[]uint32{1, 0, 1, 0, 1, 0, 0, 1, 0}, []api.Rect{at(0, 0, 1, 1), at(2, 0, 1, 1), at(1, 1, 1, 2)}}, {[]uint32{0, 0, 0, 0, 0, 0, 0, 0, 1}, []api.Rect{at(2, 2, 1, 1)}},
		// The end of a row and the beginning of the next one do not touch.
		{[]uint32{0, 0, 1, 1, 0, 0, 0, 0, 0}, []api.Rect{at(2, 0, 1, 1), at(0, 1, 1, 1)}}, {[]uint32{1 << 24, 0, 0, 0, 1, 0, 0, 0, 0}, []api.Rect{at(1, 1, 1, 1)}},
	} {
		a, b := from(t, zero), from(t, image(3, 3, x.pix...))
		if got := unlike(t, a, b); !slices.Equal(got, x.want) || !slices.Equal(unlike(t, b, a), x.want) {
			t.Errorf("Diff with %v is %v, not %v", x.pix, got, x.want)
		}
	}
	for _, o := range []api.Image{counted(3, 2), counted(2, 3), counted(9, 1), counted(1, 1), counted(4, 3)} {
		if l, e := from(t, zero).Diff(from(t, o)); len(l) != 0 || e != api.ErrArg {
			t.Errorf("Diff with one %d by %d: %v, %v", o.W, o.H, l, e)
		}
	}
}

func TestDiffOfTheGreatest(t *testing.T) {
	a, _ := pixbuf.New(side, side)
	chess := repainted(a.Image(), func(x, y int, _ uint32) uint32 { return uint32((x + y) % 2) })
	if l := unlike(t, a, from(t, chess)); len(l) != side*side/2 || region.Area(l) != side*side/2 {
		t.Errorf("a chess board differs in %d", len(l))
	}
	if l := unlike(t, a, from(t, counted(side, side))); !slices.Equal(l, []api.Rect{at(0, 0, side, side)}) {
		t.Errorf("a picture that is unlike all over differs in %v", l)
	}
}

// P3.7

func TestAnyCalls(t *testing.T) {
	d := dice(1)
	for range 2000 {
		b, e := pixbuf.New(1+d.below(6), 1+d.below(6))
		if e != api.OK {
			t.Fatal(e)
		}
		want := image(b.W(), b.H(), make([]uint32, b.W()*b.H())...)
		for range 8 {
			c := uint32(d.below(9)) | uint32(d.below(3))<<24
			switch d.below(4) {
			case 0:
				x, y := d.place(), d.place()
				expect := api.ErrRange
				if x >= 0 && x < want.W && y >= 0 && y < want.H {
					expect = api.OK
				}
				if e := b.Set(x, y, c); e != expect {
					t.Fatalf("Set(%d, %d): %v", x, y, e)
				}
				want = filled(want, at(x, y, 1, 1), c)
			case 1:
				r := d.rect()
				b.Fill(r, c)
				want = filled(want, r, c)
			case 2:
				x, y, m, clip := d.place(), d.place(), d.some(), d.rect()
				b.Blit(x, y, m, clip)
				want = blitted(want, x, y, m, clip)
			case 3:
				c := api.Copy{To: d.rect(), DX: d.below(7) - 3, DY: d.below(7) - 3}
				n, expect := copied(want, c)
				if e := b.Copy(c); e != expect {
					t.Fatalf("Copy(%v) in %d by %d: %v, not %v", c, want.W, want.H, e, expect)
				}
				want = n
			}
			shows(t, "a call", b, want)
			r := d.rect()
			expect, e := partOf(want, r)
			if got, f := b.Part(r); f != e || !alike(got, expect) {
				t.Fatalf("Part(%v) of %v is %v, %v", r, want, got, f)
			}
		}
	}
}

// parts hands on rectangles in and about a small picture.
func parts(hand func(r api.Rect)) {
	for x := -1; x <= 3; x++ {
		for y := -1; y <= 2; y++ {
			for w := 1; w <= 4; w++ {
				for h := 1; h <= 3; h++ {
					hand(at(x, y, w, h))
				}
			}
		}
	}
}

func TestCopyAndBack(t *testing.T) {
	m := counted(4, 3)
	done := 0
	parts(func(to api.Rect) {
		for i := range 9 * 7 {
			b, c := from(t, m), api.Copy{To: to, DX: i%9 - 4, DY: i/9 - 3}
			want, expect := copied(m, c)
			if e := b.Copy(c); e != expect {
				t.Fatalf("Copy(%v): %v, not %v", c, e, expect)
			}
			shows(t, "Copy", b, want)
			if expect != api.OK {
				continue
			}
			done++
			source := rect.Shift(to, -c.DX, -c.DY)
			if e := b.Copy(api.Copy{To: source, DX: -c.DX, DY: -c.DY}); e != api.OK {
				t.Fatalf("Copy(%v) back: %v", c, e)
			}
			had, _ := partOf(m, source)
			if has, _ := b.Part(source); !alike(has, had) {
				t.Fatalf("Copy(%v) and back leaves %v, not %v", c, has, had)
			}
		}
	})
	if done == 0 {
		t.Error("nothing was copied")
	}
}

func TestDiffIsWhatIsUnlike(t *testing.T) {
	d := dice(2)
	same := 0
	for range 4000 {
		m := d.some()
		o := repainted(m, func(_, _ int, old uint32) uint32 {
			if d.below(3*m.W) == 0 {
				return uint32(d.below(4))
			}
			return old
		})
		a, b := from(t, m), from(t, o)
		l := unlike(t, a, b)
		for i := range m.Pix {
			if got := region.Has(l, i%m.W, i/m.W); got != (m.Pix[i]%(1<<24) != o.Pix[i]%(1<<24)) {
				t.Fatalf("Diff of %v and %v is %v", m, o, l)
			}
		}
		if a.Same(b) != (len(l) == 0) || b.Same(a) != (len(l) == 0) {
			t.Fatalf("Same of %v and %v is %v", m, o, a.Same(b))
		}
		if len(l) == 0 {
			same++
		}
		for _, r := range l {
			a.Blit(0, 0, b.Image(), r)
		}
		if !a.Same(b) || len(unlike(t, a, b)) != 0 {
			t.Fatalf("%v with what is unlike in it taken from %v is not the same", m, o)
		}
	}
	if same == 0 || same == 4000 {
		t.Errorf("%d were the same", same)
	}
}

// Rules

func TestNil(t *testing.T) {
	var b *pixbuf.Buf
	some := from(t, counted(2, 2))
	if b.W() != 0 || b.H() != 0 || b.Clone() != nil || !alike(b.Image(), api.Image{}) {
		t.Error("nil has a picture")
	}
	if c, e := b.At(0, 0); c != 0 || e != api.ErrNil {
		t.Errorf("At of nil: %d, %v", c, e)
	}
	if m, e := b.Part(at(0, 0, 1, 1)); e != api.ErrNil || !alike(m, api.Image{}) {
		t.Errorf("Part of nil: %v, %v", m, e)
	}
	if m, e := b.Part(api.Rect{}); e != api.ErrNil || !alike(m, api.Image{}) {
		t.Errorf("Part of nil: %v, %v", m, e)
	}
	for _, e := range []api.Errno{b.Set(0, 0, 1), b.Set(-1, 0, 1), b.Copy(api.Copy{}), b.Copy(api.Copy{To: at(0, 0, 1, 1), DX: 5})} {
		if e != api.ErrNil {
			t.Errorf("a call on nil: %v", e)
		}
	}
	b.Fill(at(0, 0, 1, 1), 1)
	b.Blit(0, 0, counted(1, 1), at(0, 0, 1, 1))
	if !b.Same(nil) || b.Same(some) || some.Same(nil) {
		t.Error("Same of nil")
	}
	for _, x := range [][2]*pixbuf.Buf{{b, b}, {b, some}, {some, b}} {
		if l, e := x[0].Diff(x[1]); len(l) != 0 || e != api.ErrNil {
			t.Errorf("Diff of nil: %v, %v", l, e)
		}
	}
}

func TestWhatIsHandedInStays(t *testing.T) {
	room := []uint32{0xff000001, 2, 3, 4, 90, 91}
	kept := slices.Clone(room)
	m := image(2, 2, room[:4]...)
	b := from(t, m)
	b.Blit(0, 0, m, at(0, 0, 2, 2))
	b.Fill(at(0, 0, 2, 2), 8)
	b.Copy(api.Copy{To: at(1, 0, 1, 2), DX: 1})
	b.Clone().Set(0, 0, 6)
	if !slices.Equal(room, kept) {
		t.Errorf("what was handed in is now %v", room)
	}
	b.Blit(0, 0, m, at(0, 0, 2, 2))
	for i := range room {
		room[i] = 77
	}
	shows(t, "writing into what was handed in", b, image(2, 2, 1, 2, 3, 4))
}

func TestAnswersAreTheirOwn(t *testing.T) {
	b, o := from(t, counted(3, 3)), from(t, image(3, 3, make([]uint32, 9)...))
	scribble := func(pix []uint32) {
		pix = pix[:cap(pix)]
		for i := range pix {
			pix[i] = 77
		}
	}
	scribble(b.Image().Pix)
	part, _ := b.Part(at(1, 0, 2, 2))
	scribble(part.Pix)
	whole, _ := b.Part(at(0, 0, 3, 3))
	scribble(whole.Pix)
	l := unlike(t, b, o)
	l = l[:cap(l)]
	for i := range l {
		l[i] = at(9, 9, 9, 9)
	}
	shows(t, "writing into the answers", b, counted(3, 3))
	if got := unlike(t, b, o); !slices.Equal(got, []api.Rect{at(0, 0, 3, 3)}) {
		t.Errorf("behind writing into the answers Diff is %v", got)
	}
	kept := b.Image()
	b.Fill(at(0, 0, 3, 3), 5)
	if !alike(kept, counted(3, 3)) {
		t.Errorf("a picture that was handed out is now %v", kept)
	}
}

func TestABufferThatNoCallMade(t *testing.T) {
	b := new(pixbuf.Buf)
	b.Fill(at(0, 0, 1, 1), 1)
	b.Blit(0, 0, counted(1, 1), at(0, 0, 1, 1))
	if b.W() != 0 || b.H() != 0 || !b.Same(b.Clone()) || b.Set(0, 0, 1) != api.ErrRange {
		t.Error("a buffer that no call made has a picture")
	}
	b.Copy(api.Copy{To: at(0, 0, 1, 1)})
	b.Part(at(0, 0, 1, 1))
	b.Diff(b)
	b.Image()
}
