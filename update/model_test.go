package update_test

import (
	"slices"

	"vignette/api"
	"vignette/codec"
)

// numbers goes on, from one number to the next, through numbers that look as if they came by chance.
type numbers uint64

func (s *numbers) below(n int) int {
	*s = *s*6364136223846793005 + 1442695040888963407
	return int(uint64(*s>>17) % uint64(n))
}

// bytes are so many, of any bits.
func (s *numbers) bytes(n int) []byte {
	l := make([]byte, n)
	for i := range l {
		l[i] = byte(s.below(256))
	}
	return l
}

// picture is one of a size, of so many colours, with any high bits.
func (s *numbers) picture(w, h, colors int) api.Image {
	base := s.below(1 << 24)
	m := api.Image{W: w, H: h}
	for range w * h {
		m.Pix = append(m.Pix, uint32(base+s.below(colors)*0x010307)&0xffffff|uint32(s.below(256))<<24)
	}
	return m
}

// part is a part of a picture so wide and high.
func (s *numbers) part(w, h int) api.Rect {
	r := api.Rect{X: s.below(w), Y: s.below(h)}
	r.W, r.H = 1+s.below(w-r.X), 1+s.below(h-r.Y)
	return r
}

// copyOf is a copy of a picture so wide and high.
func (s *numbers) copyOf(w, h int) api.Copy {
	c := api.Copy{To: s.part(w, h)}
	c.DX = c.To.X - s.below(w-c.To.W+1)
	c.DY = c.To.Y - s.below(h-c.To.H+1)
	return c
}

// copiesOf are at most so many, less one.
func (s *numbers) copiesOf(most, w, h int) []api.Copy {
	l := make([]api.Copy, s.below(most))
	for i := range l {
		l[i] = s.copyOf(w, h)
	}
	return l
}

// partsOf are at most so many, less one.
func (s *numbers) partsOf(most, w, h int) []api.Rect {
	l := make([]api.Rect, s.below(most))
	for i := range l {
		l[i] = s.part(w, h)
	}
	return l
}

// The chapter's words.

// mayBe says whether a picture may be.
func mayBe(m api.Image) bool {
	return m.W >= 1 && m.W <= 256 && m.H >= 1 && m.H <= 256 && len(m.Pix) == m.W*m.H
}

// lies says whether a rectangle is a part: each number is small ahead of any sum.
func lies(m api.Image, r api.Rect) bool {
	for _, v := range []int{r.X, r.Y, r.W, r.H} {
		if v < 0 || v > 256 {
			return false
		}
	}
	return r.W > 0 && r.H > 0 && r.X+r.W <= m.W && r.Y+r.H <= m.H
}

// copies says whether a copy is one of a picture.
func copies(m api.Image, c api.Copy) bool {
	if !lies(m, c.To) || c.DX < -255 || c.DX > 255 || c.DY < -255 || c.DY > 255 {
		return false
	}
	return lies(m, api.Rect{X: c.To.X - c.DX, Y: c.To.Y - c.DY, W: c.To.W, H: c.To.H})
}

// low is a picture of 24 low bits.
func low(m api.Image) api.Image {
	n := api.Image{W: m.W, H: m.H}
	for _, p := range m.Pix {
		n.Pix = append(n.Pix, p%(1<<24))
	}
	return n
}

// in says whether a pixel is a rectangle's.
func in(r api.Rect, x, y int) bool {
	return x >= r.X && x < r.X+r.W && y >= r.Y && y < r.Y+r.H
}

// painted is a picture in which each pixel of a rectangle is told anew.
func painted(m api.Image, r api.Rect, told func(x, y int) uint32) api.Image {
	n := api.Image{W: m.W, H: m.H, Pix: make([]uint32, 0, len(m.Pix))}
	for i, p := range m.Pix {
		if x, y := i%m.W, i/m.W; in(r, x, y) {
			p = told(x, y)
		}
		n.Pix = append(n.Pix, p)
	}
	return n
}

// copied is a picture in which a copy is done.
func copied(m api.Image, c api.Copy) api.Image {
	return painted(m, c.To, func(x, y int) uint32 { return m.Pix[(y-c.DY)*m.W+x-c.DX] })
}

// laid is a picture in which a part shows another picture.
func laid(m api.Image, r api.Rect, o api.Image) api.Image {
	return painted(m, r, func(x, y int) uint32 { return o.Pix[(y-r.Y)*o.W+x-r.X] })
}

// partOf is the picture of a part.
func partOf(m api.Image, r api.Rect) api.Image {
	n := api.Image{W: r.W, H: r.H, Pix: make([]uint32, 0, r.W*r.H)}
	for y := r.Y; y < r.Y+r.H; y++ {
		for x := r.X; x < r.X+r.W; x++ {
			n.Pix = append(n.Pix, m.Pix[y*m.W+x])
		}
	}
	return n
}

// told are numbers of n bytes each.
func told(n int, l ...int) []byte {
	var b []byte
	for _, v := range l {
		if v < 0 {
			v += 1 << (8 * n)
		}
		for i := n - 1; i >= 0; i-- {
			b = append(b, byte(v/(1<<(8*i))%256))
		}
	}
	return b
}

// toldCopies are the bytes of copies, with their count.
func toldCopies(l []api.Copy) []byte {
	b := told(2, len(l))
	for _, c := range l {
		b = append(b, told(2, c.To.X, c.To.Y, c.To.W, c.To.H, c.DX, c.DY)...)
	}
	return b
}

// toldPart are the bytes of a part, as it comes in a kind.
func toldPart(r api.Rect, kind uint8, own []byte) []byte {
	b := append(told(2, r.X, r.Y, r.W, r.H), kind)
	return append(append(b, told(4, len(own))...), own...)
}

// bodyOf is the body of copies, and of parts of a picture.
func bodyOf(l []api.Copy, parts []api.Rect, m api.Image) []byte {
	b := append(toldCopies(l), told(2, len(parts))...)
	known := map[api.Rect][]byte{}
	for _, r := range parts {
		if known[r] == nil {
			kind, own, _ := codec.Encode(partOf(m, r))
			known[r] = toldPart(r, kind, own)
		}
		b = append(b, known[r]...)
	}
	return b
}

// read goes through bytes, and remembers whether some were missing.
type read struct {
	all     []byte
	at      int
	missing bool
}

func (r *read) bytes(n int) []byte {
	if r.missing || r.at+n > len(r.all) {
		r.missing = true
		return make([]byte, min(n, 4))
	}
	r.at += n
	return r.all[r.at-n : r.at]
}

func (r *read) number(n int) int {
	v := 0
	for _, b := range r.bytes(n) {
		v = v*256 + int(b)
	}
	return v
}

func (r *read) signed() int {
	v := r.number(2)
	if v >= 1<<15 {
		v -= 1 << 16
	}
	return v
}

func (r *read) rect() api.Rect {
	x, y, w, h := r.number(2), r.number(2), r.number(2), r.number(2)
	return api.Rect{X: x, Y: y, W: w, H: h}
}

// becomes is the picture that becomes of one by a body, whether it is a body, and which pixels were touched.
func becomes(m api.Image, body []byte) (api.Image, bool, []api.Rect) {
	if len(body) > 1<<19 {
		return api.Image{}, false, nil
	}
	r, n := &read{all: body}, low(m)
	var touched []api.Rect
	for i := r.number(2); i > 0 && !r.missing; i-- {
		c := api.Copy{To: r.rect()}
		c.DX = r.signed()
		c.DY = r.signed()
		if r.missing || !copies(m, c) {
			return api.Image{}, false, nil
		}
		n, touched = copied(n, c), append(touched, c.To)
	}
	for i := r.number(2); i > 0 && !r.missing; i-- {
		to := r.rect()
		kind := uint8(r.number(1))
		own := r.bytes(r.number(4))
		if r.missing || !lies(m, to) {
			return api.Image{}, false, nil
		}
		o, err := codec.Decode(kind, to.W, to.H, own)
		if err != api.OK {
			return api.Image{}, false, nil
		}
		n, touched = laid(n, to, o), append(touched, to)
	}
	if r.missing || r.at < len(body) {
		return api.Image{}, false, nil
	}
	return n, true, touched
}

// unlike are the pixels in which two pictures differ, as rectangles of one pixel.
func unlike(a, b api.Image) []api.Rect {
	var l []api.Rect
	for i, p := range a.Pix {
		if p%(1<<24) != b.Pix[i]%(1<<24) {
			l = append(l, api.Rect{X: i % a.W, Y: i / a.W, W: 1, H: 1})
		}
	}
	return l
}

// alike says whether two pictures are.
func alike(a, b api.Image) bool {
	return a.W == b.W && a.H == b.H && slices.Equal(a.Pix, b.Pix)
}
