package rle

import "iter"

// A run is runBytes bytes, and tells at most longest pixels.
const (
	runBytes = 4
	longest  = 256
)

// run is how many pixels are alike, and the colour of each.
type run struct {
	count int
	color uint32
}

// alike goes through the runs of pixels, each as long as it can be.
func alike(pix []uint32) iter.Seq[run] {
	return func(yield func(run) bool) {
		for at := 0; at < len(pix); {
			r := first(pix[at:])
			if !yield(r) {
				return
			}
			at += r.count
		}
	}
}

// first is the run that pixels, of which there is one at least, begin with.
func first(pix []uint32) run {
	r := run{color: low(pix[0])}
	for r.count < min(len(pix), longest) && low(pix[r.count]) == r.color {
		r.count++
	}
	return r
}

// low is what counts of a pixel's number.
func low(pixel uint32) uint32 {
	return pixel & 0xffffff
}

// told goes through the runs of bytes, of which there are as many as runs take.
func told(b []byte) iter.Seq[run] {
	return func(yield func(run) bool) {
		for at := 0; at < len(b); at += runBytes {
			if !yield(read([runBytes]byte(b[at:]))) {
				return
			}
		}
	}
}

// read is the run that bytes tell.
func read(b [runBytes]byte) run {
	return run{int(b[0]) + 1, uint32(b[1])<<16 | uint32(b[2])<<8 | uint32(b[3])}
}

// tell appends a run's bytes to those of the runs ahead of it.
func (r run) tell(b []byte) []byte {
	return append(b, byte(r.count-1), byte(r.color>>16), byte(r.color>>8), byte(r.color))
}

// lay appends a run's pixels to those of the runs ahead of it.
func (r run) lay(pix []uint32) []uint32 {
	for range r.count {
		pix = append(pix, r.color)
	}
	return pix
}
