package update

import (
	"vignette/api"
	"vignette/codec"
)

// put lays a number's n low bytes behind others, the highest first.
func put(b []byte, n, v int) []byte {
	for n > 0 {
		n--
		b = append(b, byte(v>>(8*n)))
	}
	return b
}

// putRect lays a rectangle behind other bytes.
func putRect(b []byte, r api.Rect) []byte {
	for _, v := range [...]int{r.X, r.Y, r.W, r.H} {
		b = put(b, 2, v)
	}
	return b
}

// tellCopies are the bytes of a body ahead of its parts.
func tellCopies(copies []api.Copy) []byte {
	b := put(nil, countBytes, len(copies))
	for _, c := range copies {
		b = putRect(b, c.To)
		b = put(b, 2, c.DX)
		b = put(b, 2, c.DY)
	}
	return b
}

// tellPart lays a part behind other bytes: where it is, and its own bytes.
func tellPart(b []byte, r api.Rect, kind uint8, own []byte) []byte {
	b = append(putRect(b, r), kind)
	b = put(b, 4, len(own))
	return append(b, own...)
}

// reader reads a body from its beginning on; what is wrong is thrown.
type reader struct {
	rest []byte
}

// check throws what is wrong with a body.
func check(right bool) {
	if !right {
		panic(api.ErrBody)
	}
}

// take is the next n bytes.
func (r *reader) take(n uint32) []byte {
	check(n <= uint32(len(r.rest)))
	b := r.rest[:n]
	r.rest = r.rest[n:]
	return b
}

// number is the next one, of as many bytes as its type has: so one below 0 is read as a signed one's.
func number[T int16 | uint16 | uint32](r *reader) T {
	var v T
	for left := ^T(0); left != 0; left <<= 8 {
		v = v<<8 | T(r.take(1)[0])
	}
	return v
}

// rect is the next rectangle.
func (r *reader) rect() api.Rect {
	x, y := number[uint16](r), number[uint16](r)
	w, h := number[uint16](r), number[uint16](r)
	return api.Rect{X: int(x), Y: int(y), W: int(w), H: int(h)}
}

// copies does, within a picture, the copies that come next.
func (r *reader) copies(m api.Image) {
	for range number[uint16](r) {
		to, dx, dy := r.rect(), number[int16](r), number[int16](r)
		c := api.Copy{To: to, DX: int(dx), DY: int(dy)}
		check(isCopy(c, m))
		move(m, c)
	}
}

// parts lays the parts that come next into a picture.
func (r *reader) parts(m api.Image) {
	for range number[uint16](r) {
		to, kind := r.rect(), r.take(1)[0]
		own := r.take(number[uint32](r))
		check(isPart(to, m))
		shows, err := codec.Decode(kind, to.W, to.H, own)
		check(err == api.OK)
		lay(m, to, shows)
	}
}

// end throws, if bytes are left.
func (r *reader) end() {
	check(len(r.rest) == 0)
}
