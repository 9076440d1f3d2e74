package bits_test

import (
	"bytes"
	"math"
	"slices"
	"testing"

	"vignette/api"
	"vignette/bits"
)

// row is a model of a row of bits: each is one number, 0 or 1.
type row []int

// put lays a number of n bits behind the others, by the chapter's words: low bit first.
func (m *row) put(v uint32, n int) {
	for range n {
		*m = append(*m, int(v%2))
		v /= 2
	}
}

// align lays bits 0 until the row ends with a byte.
func (m *row) align() {
	for len(*m)%8 != 0 {
		*m = append(*m, 0)
	}
}

// bytes are the row's bytes: of each the bit that weighs least is first.
func (m row) bytes() []byte {
	b := make([]byte, (len(m)+7)/8)
	weight := 1
	for i, bit := range m {
		b[i/8] += byte(bit * weight)
		if weight *= 2; weight == 256 {
			weight = 1
		}
	}
	return b
}

// number is what n bits from a place on are.
func (m row) number(at, n int) uint32 {
	v, weight := uint32(0), uint32(1)
	for _, bit := range m[at : at+n] {
		v += uint32(bit) * weight
		weight *= 2
	}
	return v
}

// rowOf is the model of some bytes.
func rowOf(b []byte) row {
	var m row
	for _, x := range b {
		m.put(uint32(x), 8)
	}
	return m
}

// numbers goes on, from one number to the next, through numbers that look as if they came by chance.
type numbers uint64

func (s *numbers) below(n int) int {
	*s = *s*6364136223846793005 + 1442695040888963407
	return int(uint64(*s>>33) % uint64(n))
}

// some are n bytes of these.
func some(n int) []byte {
	s := numbers(n)
	b := make([]byte, n)
	for i := range b {
		b[i] = byte(s.below(256))
	}
	return b
}

// values are numbers of n bits: at the ends, beside them, and with bits that take turns.
func values(n int) []uint32 {
	last := uint32(1)<<n - 1
	return []uint32{0, last, 1 & last, last - last/2, last / 2, 0xaaaaaaaa & last, 0x55555555 & last, 0x00b1c2d3 & last}
}

// wrongWidths are no numbers of bits that a number may have.
func wrongWidths() []int {
	return []int{-1, 25, 26, 32, 33, 64, 65, -8, -24, 256, 257, 1 << 32, math.MaxInt, math.MinInt, math.MinInt + 1}
}

func mustPut(t *testing.T, w *bits.Writer, v uint32, n int) {
	t.Helper()
	if e := w.Put(v, n); e != api.OK {
		t.Fatalf("Put(%d, %d) with %d bits is %v", v, n, w.Len(), e)
	}
}

func mustAlign(t *testing.T, w *bits.Writer) {
	t.Helper()
	if e := w.Align(); e != api.OK {
		t.Fatalf("Align with %d bits is %v", w.Len(), e)
	}
}

func wantRow(t *testing.T, w *bits.Writer, m row) {
	t.Helper()
	if got := w.Bytes(); !bytes.Equal(got, m.bytes()) || w.Len() != len(m) {
		t.Fatalf("Bytes %x, Len %d, not %x, %d", got, w.Len(), m.bytes(), len(m))
	}
}

func wantGet(t *testing.T, r *bits.Reader, n int, v uint32, e api.Errno) {
	t.Helper()
	if got, err := r.Get(n); got != v || err != e {
		t.Fatalf("Get(%d), then at %d, is %d, %v, not %d, %v", n, r.At(), got, err, v, e)
	}
}

func wantPlace(t *testing.T, r *bits.Reader, at, left int) {
	t.Helper()
	if r.At() != at || r.Left() != left {
		t.Fatalf("At %d, Left %d, not %d, %d", r.At(), r.Left(), at, left)
	}
}

// P5.1

func TestWriterOfTheExamples(t *testing.T) {
	var w bits.Writer
	if b := w.Bytes(); len(b) != 0 || w.Len() != 0 {
		t.Errorf("one without bits has Bytes %x, Len %d", b, w.Len())
	}
	mustPut(t, &w, 1, 1)
	mustPut(t, &w, 2, 2)
	mustPut(t, &w, 255, 8)
	if b := w.Bytes(); !bytes.Equal(b, []byte{0xfd, 0x07}) || w.Len() != 11 {
		t.Errorf("Bytes %x, Len %d", b, w.Len())
	}
	mustAlign(t, &w)
	mustPut(t, &w, 3, 24)
	if b := w.Bytes(); !bytes.Equal(b, []byte{0xfd, 0x07, 0x03, 0x00, 0x00}) || w.Len() != 40 {
		t.Errorf("Bytes %x, Len %d", b, w.Len())
	}
}

// TestPutOfAllWidths lays numbers of each width behind rows of each length up to past a byte, of bits 0 and of bits 1.
func TestPutOfAllWidths(t *testing.T) {
	for ahead := range 18 {
		for n := range 25 {
			for _, v := range values(n) {
				for _, bit := range []uint32{0, 1} {
					var w bits.Writer
					var m row
					for range ahead {
						mustPut(t, &w, bit, 1)
						m.put(bit, 1)
					}
					mustPut(t, &w, v, n)
					m.put(v, n)
					wantRow(t, &w, m)
					// What comes behind stands behind it, too.
					mustPut(t, &w, 5, 3)
					m.put(5, 3)
					wantRow(t, &w, m)
				}
			}
		}
	}
}

// Bits of the last byte that are none yet are 0, and stay to be laid.
func TestWriterGoesOnInTheLastByte(t *testing.T) {
	var w bits.Writer
	var m row
	for i := range 100 {
		v := uint32(i*i/3) % 2
		mustPut(t, &w, v, 1)
		m.put(v, 1)
		wantRow(t, &w, m)
		wantRow(t, &w, m)
	}
}

func TestAlignOfWriter(t *testing.T) {
	for n := range 25 {
		var w bits.Writer
		var m row
		for range 2 {
			mustPut(t, &w, uint32(1)<<n-1, n)
			m.put(uint32(1)<<n-1, n)
			// The second one lays none: the row ends with a byte.
			for range 2 {
				mustAlign(t, &w)
				m.align()
				wantRow(t, &w, m)
			}
		}
	}
	var w bits.Writer
	mustAlign(t, &w)
	wantRow(t, &w, nil)
}

// TestPutRefused hands in what may not be, and looks at whether all is as it was, and goes on as if nothing had been.
func TestPutRefused(t *testing.T) {
	for _, ahead := range []int{0, 1, 7, 8, 13, 16, 24} {
		var w bits.Writer
		var m row
		mustPut(t, &w, uint32(1)<<ahead-1, ahead)
		m.put(uint32(1)<<ahead-1, ahead)
		refused := func(v uint32, n int) {
			t.Helper()
			if e := w.Put(v, n); e != api.ErrArg {
				t.Errorf("Put(%d, %d) is %v", v, n, e)
			}
			wantRow(t, &w, m)
		}
		for _, n := range wrongWidths() {
			for _, v := range []uint32{0, 1, 2, math.MaxUint32} {
				refused(v, n)
			}
		}
		for n := range 25 {
			for high := n; high < 32; high++ {
				refused(1<<high, n)
				refused(1<<high|(1<<n-1), n)
			}
			refused(math.MaxUint32, n)
		}
		mustPut(t, &w, 9, 4)
		m.put(9, 4)
		wantRow(t, &w, m)
	}
}

// full is a writer that has as many bits as may be, but for some, with its bytes.
func full(t *testing.T, but int) (*bits.Writer, []byte) {
	t.Helper()
	w := new(bits.Writer)
	want := make([]byte, api.MaxOut)
	for left := 8*api.MaxOut - but; left > 0; {
		n := min(left, 24)
		mustPut(t, w, uint32(1)<<n-1, n)
		left -= n
	}
	for i := range 8*api.MaxOut - but {
		want[i/8] |= 1 << (i % 8)
	}
	return w, want[:(8*api.MaxOut-but+7)/8]
}

func TestPutTooMuch(t *testing.T) {
	for _, but := range []int{0, 1, 5, 8, 9, 23, 24} {
		w, want := full(t, but)
		for n := but + 1; n < 25; n++ {
			for _, v := range []uint32{0, 1, uint32(1)<<n - 1} {
				if e := w.Put(v, n); e != api.ErrLong {
					t.Errorf("Put(%d, %d), if there is room for %d, is %v", v, n, but, e)
				}
			}
		}
		// What may not be is told ahead of what there is no room for.
		for _, n := range []int{-1, 25, math.MaxInt, math.MinInt} {
			if e := w.Put(0, n); e != api.ErrArg {
				t.Errorf("Put(0, %d) is %v", n, e)
			}
		}
		if e := w.Put(1<<24, 24); e != api.ErrArg {
			t.Errorf("Put(1<<24, 24) is %v", e)
		}
		if got := w.Bytes(); !bytes.Equal(got, want) || w.Len() != 8*api.MaxOut-but {
			t.Fatalf("with room for %d: %d bytes, Len %d", but, len(got), w.Len())
		}
		mustPut(t, w, 0, but)
		want = append(want, make([]byte, api.MaxOut-len(want))...)
		if got := w.Bytes(); !bytes.Equal(got, want) || w.Len() != 8*api.MaxOut {
			t.Fatalf("filled up: %d bytes, Len %d", len(got), w.Len())
		}
		mustPut(t, w, 0, 0)
		mustAlign(t, w)
		if e := w.Put(0, 1); e != api.ErrLong || w.Len() != 8*api.MaxOut {
			t.Errorf("Put(0, 1) into a full one is %v, Len %d", e, w.Len())
		}
	}
}

// The last byte may be filled up by Align, too.
func TestAlignUpToTheMost(t *testing.T) {
	for but := range 8 {
		w, want := full(t, but)
		mustAlign(t, w)
		if got := w.Bytes(); !bytes.Equal(got, want) || w.Len() != 8*api.MaxOut {
			t.Fatalf("aligned behind all but %d: %d bytes, Len %d", but, len(got), w.Len())
		}
	}
}

// Bytes are new memory, with their room: what is written there is in no later answer.
func TestBytesAreNew(t *testing.T) {
	var w bits.Writer
	var m row
	for i := range 70 {
		first, second := w.Bytes(), w.Bytes()
		for _, b := range [][]byte{first, second[:0]} {
			b = b[:cap(b)]
			for j := range b {
				b[j] ^= 0xff
			}
		}
		wantRow(t, &w, m)
		if i%7 == 0 {
			mustAlign(t, &w)
			m.align()
		}
		mustPut(t, &w, uint32(i), 7)
		m.put(uint32(i), 7)
	}
	early := w.Bytes()
	kept := slices.Clone(early)
	for range 20 {
		mustPut(t, &w, 0xffffff, 24)
	}
	if !bytes.Equal(early, kept) {
		t.Errorf("an earlier answer turned from %x to %x", kept, early)
	}
}

func TestNilWriter(t *testing.T) {
	var w *bits.Writer
	for _, n := range append(wrongWidths(), 0, 1, 24) {
		if e := w.Put(0, n); e != api.ErrNil {
			t.Errorf("Put(0, %d) of nil is %v", n, e)
		}
		if e := w.Put(math.MaxUint32, n); e != api.ErrNil {
			t.Errorf("Put(MaxUint32, %d) of nil is %v", n, e)
		}
	}
	if e := w.Align(); e != api.ErrNil {
		t.Errorf("Align of nil is %v", e)
	}
	if b := w.Bytes(); len(b) != 0 || w.Len() != 0 {
		t.Errorf("nil has Bytes %x, Len %d", b, w.Len())
	}
}

// P5.2

func TestReaderOfTheExamples(t *testing.T) {
	r := bits.New([]byte{0xfd, 0x07})
	wantPlace(t, r, 0, 16)
	wantGet(t, r, 1, 1, api.OK)
	wantGet(t, r, 2, 2, api.OK)
	wantGet(t, r, 8, 255, api.OK)
	wantPlace(t, r, 11, 5)
	wantGet(t, r, 6, 0, api.ErrBits)
	wantPlace(t, r, 11, 5)
	wantGet(t, r, 5, 0, api.OK)
	wantPlace(t, r, 16, 0)
}

// TestGetOfAllWidths reads numbers of each width from each place on.
func TestGetOfAllWidths(t *testing.T) {
	b := append([]byte{0xff, 0x00, 0xff, 0xff, 0x01, 0x80}, some(20)...)
	m := rowOf(b)
	for at := range len(m) + 1 {
		for n := range 25 {
			r := bits.New(b)
			for i := range at {
				wantGet(t, r, 1, uint32(m[i]), api.OK)
			}
			wantPlace(t, r, at, len(m)-at)
			if n > len(m)-at {
				wantGet(t, r, n, 0, api.ErrBits)
				wantPlace(t, r, at, len(m)-at)
				continue
			}
			wantGet(t, r, n, m.number(at, n), api.OK)
			wantPlace(t, r, at+n, len(m)-at-n)
			// What comes behind stands behind it, too.
			next := min(9, r.Left())
			wantGet(t, r, next, m.number(at+n, next), api.OK)
		}
	}
}

func TestAlignOfReader(t *testing.T) {
	b := some(9)
	m := rowOf(b)
	for at := range len(m) + 1 {
		r := bits.New(b)
		for range at {
			r.Get(1)
		}
		want := at
		for want%8 != 0 {
			want++
		}
		// The second one stays.
		for range 2 {
			if e := r.Align(); e != api.OK {
				t.Fatalf("Align at %d is %v", at, e)
			}
			wantPlace(t, r, want, len(m)-want)
		}
		next := min(11, r.Left())
		wantGet(t, r, next, m.number(want, next), api.OK)
	}
}

// TestGetRefused asks for what may not be, and looks at whether the place stays.
func TestGetRefused(t *testing.T) {
	b := some(12)
	m := rowOf(b)
	for _, at := range []int{0, 1, 7, 8, 12, 24} {
		r := bits.New(b)
		r.Get(at)
		for _, n := range wrongWidths() {
			wantGet(t, r, n, 0, api.ErrArg)
			wantPlace(t, r, at, len(m)-at)
		}
		wantGet(t, r, 24, m.number(at, 24), api.OK)
	}
}

// At the end there are no more bits but none; what may not be is told ahead of that.
func TestGetAtTheEnd(t *testing.T) {
	for _, b := range [][]byte{nil, {}, {0x5a}, some(3)} {
		r := bits.New(b)
		for range 8 * len(b) {
			r.Get(1)
		}
		for n := range 25 {
			if n > 0 {
				wantGet(t, r, n, 0, api.ErrBits)
			} else {
				wantGet(t, r, n, 0, api.OK)
			}
			wantPlace(t, r, 8*len(b), 0)
		}
		for _, n := range wrongWidths() {
			wantGet(t, r, n, 0, api.ErrArg)
		}
		if e := r.Align(); e != api.OK {
			t.Errorf("Align at the end is %v", e)
		}
		wantPlace(t, r, 8*len(b), 0)
	}
}

// Fewer bits than asked for are no number of fewer bits: they are still there.
func TestGetOfTooFew(t *testing.T) {
	for left := range 24 {
		r := bits.New([]byte{0xff, 0xff, 0xff})
		for range 24 - left {
			wantGet(t, r, 1, 1, api.OK)
		}
		for n := left + 1; n < 25; n++ {
			wantGet(t, r, n, 0, api.ErrBits)
			wantPlace(t, r, 24-left, left)
		}
		wantGet(t, r, left, uint32(1)<<left-1, api.OK)
		wantPlace(t, r, 24, 0)
	}
}

// A reader keeps bytes of its own, and none of the room behind those that were handed in.
func TestReaderKeepsItsBytes(t *testing.T) {
	room := some(16)
	was := slices.Clone(room)
	r := bits.New(room[3:9])
	wantPlace(t, r, 0, 48)
	m := rowOf(was[3:9])
	for at := 0; at < 48; at += 6 {
		for i := range room {
			room[i] ^= byte(0x35 + at)
		}
		wantGet(t, r, 6, m.number(at, 6), api.OK)
	}
	wantGet(t, r, 1, 0, api.ErrBits)

	room = some(16)
	r = bits.New(room[:5])
	for r.Left() > 0 {
		r.Get(min(7, r.Left()))
	}
	r.Get(24)
	r.Align()
	if !bytes.Equal(room, some(16)) {
		t.Errorf("reading turned what was handed in into %x", room)
	}
}

// More bytes than a writer may have may be read.
func TestReaderOfMuch(t *testing.T) {
	b := make([]byte, api.MaxOut+3)
	b[api.MaxOut+2] = 0xc3
	r := bits.New(b)
	wantPlace(t, r, 0, 8*api.MaxOut+24)
	for r.Left() > 8 {
		wantGet(t, r, min(24, r.Left()-8), 0, api.OK)
	}
	wantPlace(t, r, 8*api.MaxOut+16, 8)
	wantGet(t, r, 8, 0xc3, api.OK)
	wantGet(t, r, 1, 0, api.ErrBits)
}

func TestNilReader(t *testing.T) {
	var r *bits.Reader
	for _, n := range append(wrongWidths(), 0, 1, 24) {
		wantGet(t, r, n, 0, api.ErrNil)
	}
	if e := r.Align(); e != api.ErrNil {
		t.Errorf("Align of nil is %v", e)
	}
	wantPlace(t, r, 0, 0)
	if bits.New(nil) == nil {
		t.Error("New of no bytes is nil")
	}
}

// Each has bits and a place of its own.
func TestObjectsKeepApart(t *testing.T) {
	var one, two bits.Writer
	var m row
	for i := range 40 {
		mustPut(t, &one, uint32(i), 6)
		m.put(uint32(i), 6)
		mustPut(t, &two, 1, 1)
		if i%5 == 0 {
			mustAlign(t, &two)
		}
		wantRow(t, &one, m)
	}
	b := one.Bytes()
	first, second := bits.New(b), bits.New(b)
	for i := range 40 {
		wantGet(t, first, 6, uint32(i), api.OK)
		wantPlace(t, second, 0, 240)
	}
	wantGet(t, second, 24, m.number(0, 24), api.OK)
}

// P5.3

// laid is one that was put, or an alignment (n -1), and where the row ended then.
type laid struct {
	v   uint32
	n   int
	end int
}

// TestWhatIsPutIsGot lays numbers of all widths, with alignments between, and reads them.
func TestWhatIsPutIsGot(t *testing.T) {
	for seed := range 200 {
		s := numbers(seed)
		var w bits.Writer
		var m row
		var all []laid
		for range 1 + s.below(120) {
			x := laid{n: s.below(25)}
			if s.below(6) == 0 {
				x.n = -1
				mustAlign(t, &w)
				m.align()
			} else {
				x.v = uint32(s.below(1 << x.n))
				mustPut(t, &w, x.v, x.n)
				m.put(x.v, x.n)
			}
			x.end = w.Len()
			all = append(all, x)
		}
		wantRow(t, &w, m)
		r := bits.New(w.Bytes())
		for _, x := range all {
			if x.n < 0 {
				r.Align()
			} else {
				wantGet(t, r, x.n, x.v, api.OK)
			}
			if r.At() != x.end {
				t.Fatalf("seed %d: At %d, not %d", seed, r.At(), x.end)
			}
		}
		// Behind the last number there are the bits 0 up to the byte's end.
		wantGet(t, r, r.Left(), 0, api.OK)
	}
}

// What is refused between plays no part.
func TestWhatIsRefusedIsNotGot(t *testing.T) {
	var w bits.Writer
	for n := range 25 {
		for _, v := range values(n) {
			w.Put(v|1<<n, n)
			mustPut(t, &w, v, n)
			w.Put(v, -n-1)
			w.Put(0, 25+n)
		}
	}
	r := bits.New(w.Bytes())
	for n := range 25 {
		for _, v := range values(n) {
			r.Get(25 + n)
			wantGet(t, r, n, v, api.OK)
			r.Get(-n - 1)
		}
	}
	if r.At() != w.Len() {
		t.Errorf("At %d, Len %d", r.At(), w.Len())
	}
}
