package bits

// byteBits is how many bits a byte has, and mostBits how many a number may have.
const (
	byteBits = 8
	mostBits = 24
)

// counts tells whether a number may have n bits.
func counts(n int) bool {
	return n >= 0 && n <= mostBits
}

// low is what a number's n lowest bits are.
func low(v uint32, n int) uint32 {
	return v & (1<<n - 1)
}

// missing is how many bits there are from a place on to where a byte ends: none, if one ends there.
func missing(at int) int {
	return -at & (byteBits - 1)
}

// fitting is how many of n bits are in one byte, if the first one is at that place.
func fitting(n, at int) int {
	return min(n, byteBits-at%byteBits)
}

// cut hands on a number of n bits in pieces, the lowest one first: each is in one byte, if the first one is laid at that
// place, and each next one behind it.
func cut(v uint32, n, at int, lay func(piece byte, size int)) {
	for n > 0 {
		size := fitting(n, at)
		lay(byte(low(v, size)), size)
		v >>= size
		n -= size
		at += size
	}
}

// add lays a number of n bits, for which there is room: numbers and what aligns them go one way, so that a row is told in
// one place alone.
func (w *Writer) add(v uint32, n int) {
	cut(v, n, w.bits, w.lay)
}

// lay lays a piece, for which there is room in the last byte, or in one more if the row ends with a byte.
func (w *Writer) lay(piece byte, size int) {
	from := w.bits % byteBits
	if from == 0 {
		w.row = append(w.row, 0)
	}
	w.row[len(w.row)-1] |= piece << from
	w.bits += size
}

// take is what the next bits are, n of them or those that are left of the byte, and how many that is.
func (r *Reader) take(n int) (byte, int) {
	size := fitting(n, r.at)
	here := r.row[r.at/byteBits] >> (r.at % byteBits)
	r.at += size
	return byte(low(uint32(here), size)), size
}
