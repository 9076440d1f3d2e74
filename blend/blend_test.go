package blend_test

import (
	"testing"

	"vignette/blend"
)

// whole is the whole part of n / 255, n at most 255 * 255 + 127, found without a division: the greatest q that 255 q
// does not pass n.
func whole(n int) int {
	low, high := 0, 256
	for high-low > 1 {
		q := (low + high) / 2
		if 255*q <= n {
			low = q
		} else {
			high = q
		}
	}
	return low
}

// wholes are all answers of whole, so that a test that goes through all numbers is soon done.
func wholes() []int {
	l := make([]int, 255*255+127+1)
	for n := range l {
		l[n] = whole(n)
	}
	return l
}

// alphas hands on all numbers of eight bits.
func alphas(hand func(a int)) {
	for a := range 256 {
		hand(a)
	}
}

// colour is one of three channels.
func colour(red, green, blue int) uint32 {
	return uint32(red)*0x10000 + uint32(green)*0x100 + uint32(blue)
}

// over is the chapter's word of one channel, by what wholes tells.
func over(table []int, d, s, a int) int {
	return table[s*a+d*(255-a)+127]
}

// edges are channels' numbers at the ends, beside them and in the middle.
func edges() []int { return []int{0, 1, 2, 126, 127, 128, 129, 253, 254, 255} }

// P4.1

func TestMulOfAllNumbers(t *testing.T) {
	table := wholes()
	alphas(func(a int) {
		alphas(func(b int) {
			if got, want := blend.Mul(uint8(a), uint8(b)), table[a*b+127]; int(got) != want {
				t.Errorf("Mul(%d, %d) is %d, not %d", a, b, got, want)
			}
		})
	})
}

func TestMul(t *testing.T) {
	for _, x := range []struct{ a, b, want uint8 }{
		{255, 7, 7}, {128, 128, 64}, {1, 1, 0}, {0, 0, 0}, {255, 255, 255}, {254, 255, 254}, {0, 255, 0},
		// At, or next to, the products at which the answer becomes one more.
		{1, 127, 0}, {1, 128, 1}, {2, 191, 1}, {2, 192, 2}, {254, 128, 127}, {254, 254, 253}, {127, 127, 63}, {16, 8, 1}, {11, 11, 0},
	} {
		if got := blend.Mul(x.a, x.b); got != x.want {
			t.Errorf("Mul(%d, %d) is %d, not %d", x.a, x.b, got, x.want)
		}
	}
}

// P4.2

// TestOverOfAllNumbers has each channel go through all numbers, beside others that stand at other places then.
func TestOverOfAllNumbers(t *testing.T) {
	table := wholes()
	alphas(func(a int) {
		alphas(func(d int) {
			alphas(func(s int) {
				got := blend.Over(colour(d, s, d^0xa5), colour(s, d, s^0x3c), uint8(a))
				want := colour(over(table, d, s, a), over(table, s, d, a), over(table, d^0xa5, s^0x3c, a))
				if got != want {
					t.Fatalf("Over of the channels %d, %d, %d is %06x, not %06x", d, s, a, got, want)
				}
			})
		})
	})
}

func TestOver(t *testing.T) {
	for _, x := range []struct {
		d, s uint32
		a    uint8
		want uint32
	}{
		{0x000000, 0xffffff, 128, 0x808080}, {0x102030, 0x405060, 0, 0x102030}, {0x102030, 0x405060, 255, 0x405060},
		{0xff0000, 0x0000ff, 127, 0x80007f}, {0xff0000, 0x0000ff, 128, 0x7f0080}, {0xffffff, 0x000000, 128, 0x7f7f7f},
		{0x000000, 0x010203, 127, 0x000101}, {0x000000, 0x010203, 128, 0x010102}, {0x000000, 0x000000, 128, 0x000000},
		{0xffffff, 0xffffff, 1, 0xffffff}, {0x123456, 0x123456, 77, 0x123456}, {0x0000ff, 0x00ff00, 254, 0x00fe01},
		{0x00ff00, 0xff00ff, 1, 0x01fe01}, {0xff00ff, 0x00ff00, 1, 0xfe01fe},
	} {
		if got := blend.Over(x.d, x.s, x.a); got != x.want {
			t.Errorf("Over(%06x, %06x, %d) is %06x, not %06x", x.d, x.s, x.a, got, x.want)
		}
	}
}

// A channel is told by its own channels alone.
func TestOverKeepsChannelsApart(t *testing.T) {
	at := func(c uint32, channel int) uint32 { return c >> (8 * channel) & 0xff }
	for _, a := range edges() {
		for _, d := range edges() {
			for _, s := range edges() {
				for channel := range 3 {
					want := at(blend.Over(uint32(d), uint32(s), uint8(a)), 0)
					for _, rest := range []uint32{0x000000, 0xffffff, 0xa5c30f} {
						beside := rest &^ (0xff << (8 * channel))
						got := blend.Over(beside|uint32(d)<<(8*channel), ^beside&^(0xff<<(8*channel))|uint32(s)<<(8*channel), uint8(a))
						if at(got, channel) != want {
							t.Fatalf("channel %d of %d under %d at %d is %d beside %06x, not %d", channel, d, s, a, at(got, channel), beside, want)
						}
					}
				}
			}
		}
	}
}

// Of numbers past a colour the lowest 24 bits count, and a colour is answered.
func TestOverOfWrongNumbers(t *testing.T) {
	for _, high := range []uint32{0x01000000, 0x80000000, 0xff000000, 0xa5000000} {
		for _, other := range []uint32{0, 0x01000000, 0xff000000} {
			for _, a := range edges() {
				want := blend.Over(0x1020f0, 0xc0b0a0, uint8(a))
				if want > 0xffffff {
					t.Errorf("Over at %d is %x: no colour", a, want)
				}
				if got := blend.Over(high|0x1020f0, other|0xc0b0a0, uint8(a)); got != want {
					t.Errorf("Over(%x, %x, %d) is %x, not %x", high|0x1020f0, other|0xc0b0a0, a, got, want)
				}
				if got := blend.Over(other|0x1020f0, high|0xc0b0a0, uint8(a)); got != want {
					t.Errorf("Over(%x, %x, %d) is %x, not %x", other|0x1020f0, high|0xc0b0a0, a, got, want)
				}
			}
		}
	}
	if got := blend.Over(0xff102030, 0xff405060, 0); got != 0x102030 {
		t.Errorf("Over with 0 is %x", got)
	}
	if got := blend.Over(0xff102030, 0xff405060, 255); got != 0x405060 {
		t.Errorf("Over with 255 is %x", got)
	}
}

// P4.3

func TestWhatFollowsOfOver(t *testing.T) {
	alphas(func(d int) {
		alphas(func(s int) {
			// One that rises, one that falls, and one that stays.
			under, on := colour(d, s, d), colour(s, d, d)
			if got := blend.Over(under, on, 0); got != under {
				t.Fatalf("Over(%06x, %06x, 0) is %06x", under, on, got)
			}
			if got := blend.Over(under, on, 255); got != on {
				t.Fatalf("Over(%06x, %06x, 255) is %06x", under, on, got)
			}
			low, high := min(d, s), max(d, s)
			before := low
			alphas(func(a int) {
				got := blend.Over(colour(low, high, d), colour(high, low, d), uint8(a))
				rises, falls, stays := int(got>>16), int(got>>8&0xff), int(got&0xff)
				if rises < low || rises > high || falls < low || falls > high || stays != d {
					t.Fatalf("Over of %d and %d at %d is %06x: not between both", low, high, a, got)
				}
				if rises < before {
					t.Fatalf("Over of %d and %d falls from %d to %d at %d", low, high, before, rises, a)
				}
				before = rises
			})
		})
	})
}

func TestWhatFollowsOfMul(t *testing.T) {
	alphas(func(a int) {
		x := uint8(a)
		if blend.Mul(x, 255) != x || blend.Mul(255, x) != x {
			t.Errorf("Mul of %d with 255 is %d, %d", a, blend.Mul(x, 255), blend.Mul(255, x))
		}
		if blend.Mul(x, 0) != 0 || blend.Mul(0, x) != 0 {
			t.Errorf("Mul of %d with 0 is %d, %d", a, blend.Mul(x, 0), blend.Mul(0, x))
		}
		alphas(func(b int) {
			y := uint8(b)
			if got := blend.Mul(x, y); got != blend.Mul(y, x) || got > min(x, y) {
				t.Errorf("Mul(%d, %d) is %d, and the other way %d", a, b, got, blend.Mul(y, x))
			}
		})
	})
}
