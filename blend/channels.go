package blend

// depth is how many bits a channel has.
const depth = 8

// channels are those of a colour, from the lowest bits on: blue, green, red.
type channels [3]uint8

// split are a colour's channels. The bits of the number above them are no part of the colour.
func split(c uint32) channels {
	var l channels
	for i := range l {
		l[i] = uint8(c >> (depth * i))
	}
	return l
}

// joined is the colour of channels.
func joined(l channels) uint32 {
	var c uint32
	for i, v := range l {
		c |= uint32(v) << (depth * i)
	}
	return c
}

// mixed is the colour each of whose channels is what told says of that channel of two colours. They are handed to it as
// numbers that have room for sums of products.
func mixed(d, s uint32, told func(behind, ahead uint32) uint8) uint32 {
	behind, ahead := split(d), split(s)
	var l channels
	for i := range l {
		l[i] = told(uint32(behind[i]), uint32(ahead[i]))
	}
	return joined(l)
}
