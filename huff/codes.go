package huff

import "vignette/api"

// mostSymbols is how many symbols there may be, and mostSize how many bits a code may have.
const (
	mostSymbols = 320
	mostSize    = 15
)

// code is a row of bits, the first one lowest. Bits and their count are of one kind, as a map finds keys without gaps
// faster.
type code struct{ bits, size uint16 }

// and is the code with one bit more behind it.
func (c code) and(bit uint32) code {
	return code{c.bits | uint16(bit)<<c.size, c.size + 1}
}

// check tells what is wrong with lengths.
func check(lens []uint8) api.Errno {
	if len(lens) > mostSymbols {
		return api.ErrArg
	}
	const whole = 1 << mostSize
	count, sum := 0, 0
	for _, n := range lens {
		if n > mostSize {
			return api.ErrArg
		}
		if n > 0 {
			count++
			sum += whole >> n
		}
	}
	if count == 0 || sum == whole || count == 1 && sum == whole/2 {
		return api.OK
	}
	return api.ErrCode
}

// tell hands on the codes of lengths that make a code, in the codes' order.
func tell(lens []uint8, hand func(symbol int, c code)) {
	next := uint32(0)
	for size := uint8(1); size <= mostSize; size++ {
		next <<= 1
		for symbol, n := range lens {
			if n == size {
				hand(symbol, code{turned(next, size), uint16(size)})
				next++
			}
		}
	}
}

// turned is a number of so many bits as a row whose first bit was the highest.
func turned(number uint32, size uint8) uint16 {
	var row uint16
	for range size {
		row = row<<1 | uint16(number&1)
		number >>= 1
	}
	return row
}
