package tiles

import "vignette/api"

const (
	sumStart = 2166136261
	sumTimes = 16777619
)

// sumOf is the sum of a tile of a picture.
func sumOf(m api.Image, tile api.Rect) uint32 {
	var sum uint32
	add := summing()
	for y := tile.Y; y < tile.Y+tile.H; y++ {
		for _, pixel := range m.Pix[y*m.W+tile.X:][:tile.W] {
			sum = add(pixel)
		}
	}
	return sum
}

// summing is what takes the pixels of a tile one by one, and tells the sum of those that it has so far.
func summing() func(pixel uint32) uint32 {
	sum := uint32(sumStart)
	return func(pixel uint32) uint32 {
		for shift := 16; shift >= 0; shift -= 8 {
			sum = (sum ^ uint32(byte(pixel>>shift))) * sumTimes
		}
		return sum
	}
}
