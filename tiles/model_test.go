package tiles_test

import (
	"hash/fnv"
	"math"
	"slices"

	"vignette/api"
	"vignette/rect"
)

const side, top = api.MaxSide, api.MaxCoord

func at(x, y, w, h int) api.Rect { return api.Rect{X: x, Y: y, W: w, H: h} }

func image(w, h int, pix ...uint32) api.Image { return api.Image{W: w, H: h, Pix: pix} }

// list are rectangles, told as four numbers each.
func list(n ...int) []api.Rect {
	var l []api.Rect
	for i := 0; i+3 < len(n); i += 4 {
		l = append(l, at(n[i], n[i+1], n[i+2], n[i+3]))
	}
	return l
}

// wrongRects have no pixels.
func wrongRects() []api.Rect {
	return []api.Rect{
		{}, at(1, 1, 0, 5), at(1, 1, 5, 0), at(1, 1, -1, 2), at(1, 1, 2, -1), at(20, 20, -9, -9), at(top, 0, 1, 1), at(0, top, 1, 1),
		at(-top-1, 0, top+5, 4), at(0, -top-1, 4, top+5), at(-top, 0, 2*top+1, 1), at(0, -top, 1, 2*top+1), at(1, 1, math.MaxInt, 1), at(1, 1, 1, math.MaxInt),
		at(math.MaxInt, 0, math.MaxInt, 1), at(math.MinInt, math.MinInt, math.MaxInt, math.MaxInt), at(math.MinInt, 0, math.MinInt, 3), at(2, 2, math.MinInt, 2),
	}
}

// outside are rectangles of pixels that no picture of that size has.
func outside(w, h int) []api.Rect {
	return []api.Rect{
		at(w, 0, 1, 1), at(0, h, 1, 1), at(w, h, 5, 5), at(-1, 0, 1, h), at(0, -1, w, 1), at(-7, -7, 7, 7), at(w, -top, top-w, 2*top), at(-top, -top, 2*top, top),
		at(-top, -top, top, 2*top), at(-top, h, 2*top, top-h), at(top-1, top-1, 1, 1), at(-top, -top, 1, 1), at(w+16, h+16, 16, 16),
	}
}

// wrongSizes are sizes that no picture has.
func wrongSizes() [][2]int {
	l := [][2]int{{0, 0}, {math.MaxInt, math.MaxInt}, {math.MinInt, math.MinInt}, {-1, -1}, {-16, -16}, {side + 1, side + 1}, {1 << 33, 1 << 31}, {1 << 32, 1 << 32}}
	for _, wrong := range []int{0, -1, -16, side + 1, side + 16, 1 << 20, 1 << 32, 1<<32 + 16, math.MaxInt, math.MinInt} {
		for _, right := range []int{1, 5, 16, side} {
			l = append(l, [2]int{wrong, right}, [2]int{right, wrong})
		}
	}
	return l
}

// sizes are pictures' sizes about the edges of tiles, and the least and the greatest ones.
func sizes() [][2]int {
	var l [][2]int
	edges := []int{1, 2, 15, 16, 17, 31, 32, 33, 47, 48, 49}
	for _, w := range edges {
		for _, h := range edges {
			l = append(l, [2]int{w, h})
		}
	}
	return append(l, [2]int{1, side}, [2]int{side, 1}, [2]int{side, side}, [2]int{side - 1, side}, [2]int{side - 15, side - 17})
}

// The chapter's words, pixel by pixel.

// numberOf is the number of the tile that has a pixel: as many tiles as begin in the rows above it, and to the left.
func numberOf(x, y, w int) int {
	beginning := 0
	for i := range w {
		if i%16 == 0 {
			beginning++
		}
	}
	return y/16*beginning + x/16
}

// gridOf are the tiles: each from its first pixel on to its last one.
func gridOf(w, h int) []api.Rect {
	var l []api.Rect
	for y := range h {
		for x := range w {
			n := numberOf(x, y, w)
			if n == len(l) {
				l = append(l, at(x, y, 1, 1))
			}
			l[n].W, l[n].H = x-l[n].X+1, y-l[n].Y+1
		}
	}
	return l
}

// mask are a picture's pixels, row by row: whether a list has each.
func mask(l []api.Rect, w, h int) []bool {
	m := make([]bool, w*h)
	for i := range m {
		m[i] = slices.ContainsFunc(l, func(r api.Rect) bool { return rect.Has(r, i%w, i/w) })
	}
	return m
}

// touchedOf are the numbers of the tiles that have pixels of a mask.
func touchedOf(m []bool, w int) []int {
	var l []int
	for i, has := range m {
		if n := numberOf(i%w, i/w, w); has && !slices.Contains(l, n) {
			l = append(l, n)
		}
	}
	slices.Sort(l)
	return l
}

// rowOf are the rectangles, 1 high, of a mask's pixels in a tile's row, as wide as they can be.
func rowOf(m []bool, w int, tile api.Rect, y int) []api.Rect {
	var l []api.Rect
	open := false
	for x := tile.X; x < tile.X+tile.W; x++ {
		has := m[y*w+x]
		switch {
		case has && open:
			l[len(l)-1].W++
		case has:
			l = append(l, at(x, y, 1, 1))
		}
		open = has
	}
	return l
}

// formOf is the list in form of a mask's pixels in a tile: row by row, rows that go on with the one above put together.
func formOf(m []bool, w int, tile api.Rect) []api.Rect {
	var l, last []api.Rect
	for y := tile.Y; y < tile.Y+tile.H; y++ {
		row := rowOf(m, w, tile, y)
		if !slices.EqualFunc(last, row, func(a, b api.Rect) bool { return a.X == b.X && a.W == b.W }) {
			l = append(l, last...)
			last = row
			continue
		}
		for i := range last {
			last[i].H++
		}
	}
	return append(l, last...)
}

func splitOf(m []bool, w, h int) []api.Rect {
	var l []api.Rect
	for _, tile := range gridOf(w, h) {
		l = append(l, formOf(m, w, tile)...)
	}
	return l
}

// sumOf is a tile's sum: that of its pixels' bytes, as the library makes it.
func sumOf(m api.Image, tile api.Rect) uint32 {
	sum := fnv.New32a()
	for y := tile.Y; y < tile.Y+tile.H; y++ {
		for x := tile.X; x < tile.X+tile.W; x++ {
			c := m.Pix[y*m.W+x]
			sum.Write([]byte{byte(c / 65536), byte(c / 256), byte(c)})
		}
	}
	return sum.Sum32()
}

// numbers are the same in every run.
type numbers uint64

func (n *numbers) below(limit int) int {
	*n = *n*6364136223846793005 + 1442695040888963407
	return int(uint64(*n)>>33) % limit
}

// picture is one of that size, of pixels by chance.
func (n *numbers) picture(w, h int) api.Image {
	m := image(w, h)
	for range w * h {
		m.Pix = append(m.Pix, uint32(n.below(1<<24)))
	}
	return m
}

// rects are rectangles about a picture of that size, some of which reach out of it, or have no pixels.
func (n *numbers) rects(count, w, h int) []api.Rect {
	var l []api.Rect
	for range count {
		switch n.below(12) {
		case 0:
			wrong := wrongRects()
			l = append(l, wrong[n.below(len(wrong))])
		case 1:
			far := outside(w, h)
			l = append(l, far[n.below(len(far))])
		default:
			l = append(l, at(n.below(w+20)-10, n.below(h+20)-10, 1+n.below(1+n.below(w)), 1+n.below(1+n.below(h))))
		}
	}
	return l
}
