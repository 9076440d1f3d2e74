package tiles_test

import (
	"slices"
	"testing"

	"vignette/api"
	"vignette/rect"
	"vignette/region"
	"vignette/tiles"
)

// cut fails unless Touched and Split tell of a list what the model does.
func cut(t *testing.T, l []api.Rect, w, h int) {
	t.Helper()
	m := mask(l, w, h)
	if got, want := tiles.Touched(l, w, h), touchedOf(m, w); !slices.Equal(got, want) {
		t.Fatalf("Touched of %v in %d by %d is %v, not %v", l, w, h, got, want)
	}
	if got, want := tiles.Split(l, w, h), splitOf(m, w, h); !slices.Equal(got, want) {
		t.Fatalf("Split of %v in %d by %d is %v, not %v", l, w, h, got, want)
	}
}

// summed fails unless Sums tells of a picture what the model does.
func summed(t *testing.T, m api.Image) []uint32 {
	t.Helper()
	var want []uint32
	for _, tile := range gridOf(m.W, m.H) {
		want = append(want, sumOf(m, tile))
	}
	got := tiles.Sums(m)
	if !slices.Equal(got, want) {
		t.Fatalf("Sums of a picture %d by %d is %x, not %x", m.W, m.H, got, want)
	}
	return got
}

// P10.1

func TestGrid(t *testing.T) {
	for _, c := range []struct {
		w, h int
		want []api.Rect
	}{
		{20, 16, list(0, 0, 16, 16, 16, 0, 4, 16)},
		{1, 1, list(0, 0, 1, 1)},
		{16, 16, list(0, 0, 16, 16)},
		{17, 18, list(0, 0, 16, 16, 16, 0, 1, 16, 0, 16, 16, 2, 16, 16, 1, 2)},
		{3, 40, list(0, 0, 3, 16, 0, 16, 3, 16, 0, 32, 3, 8)},
		{48, 5, list(0, 0, 16, 5, 16, 0, 16, 5, 32, 0, 16, 5)},
	} {
		if got := tiles.Grid(c.w, c.h); !slices.Equal(got, c.want) {
			t.Errorf("Grid(%d, %d) is %v, not %v", c.w, c.h, got, c.want)
		}
	}
	greatest := tiles.Grid(side, side)
	if len(greatest) != 256 || greatest[17] != at(16, 16, 16, 16) || greatest[255] != at(240, 240, 16, 16) {
		t.Errorf("Grid of the greatest picture is %v", greatest)
	}
}

func TestGridOfAnySize(t *testing.T) {
	hold := func(w, h int) {
		if got, want := tiles.Grid(w, h), gridOf(w, h); !slices.Equal(got, want) {
			t.Fatalf("Grid(%d, %d) is %v, not %v", w, h, got, want)
		}
	}
	for _, size := range sizes() {
		hold(size[0], size[1])
	}
	for a := 1; a <= side; a++ {
		hold(a, 1)
		hold(1, a)
		hold(a, 17)
		hold(33, a)
	}
}

func TestSizesThatMayNotBe(t *testing.T) {
	everywhere := list(-top, -top, 2*top, 2*top)
	for _, size := range wrongSizes() {
		w, h := size[0], size[1]
		if got := tiles.Grid(w, h); len(got) != 0 {
			t.Errorf("Grid(%d, %d) is %v", w, h, got)
		}
		if got := tiles.Touched(everywhere, w, h); len(got) != 0 {
			t.Errorf("Touched in %d by %d is %v", w, h, got)
		}
		if got := tiles.Split(everywhere, w, h); len(got) != 0 {
			t.Errorf("Split in %d by %d is %v", w, h, got)
		}
		for _, pixels := range []int{0, 1, 5, 16, side, side + 1} {
			if got := tiles.Sums(image(w, h, make([]uint32, pixels)...)); len(got) != 0 {
				t.Errorf("Sums of %d pixels as %d by %d is %v", pixels, w, h, got)
			}
		}
	}
}

// P10.2, P10.3

func TestTouchedAndSplit(t *testing.T) {
	for _, c := range []struct {
		l, split []api.Rect
		w, h     int
		touched  []int
	}{
		{list(15, 0, 2, 1), list(15, 0, 1, 1, 16, 0, 1, 1), 20, 16, []int{0, 1}},
		{list(30, 30, 1, 1), nil, 20, 16, nil},
		{nil, nil, 20, 16, nil},
		{list(-5, -5, 6, 6), list(0, 0, 1, 1), 1, 1, []int{0}},
		{list(-top, -top, 2*top, 2*top), list(0, 0, 16, 16, 16, 0, 1, 16, 0, 16, 16, 2, 16, 16, 1, 2), 17, 18, []int{0, 1, 2, 3}},
		// The tiles come by their numbers, however the list stands.
		{list(0, 40, 1, 1, 40, 0, 1, 1, 20, 20, 1, 1), list(40, 0, 1, 1, 20, 20, 1, 1, 0, 40, 1, 1), 48, 48, []int{2, 4, 6}},
		// Rectangles that overlap, or touch, are one in each tile.
		{list(10, 0, 10, 4, 12, 2, 3, 1, 10, 4, 10, 2), list(10, 0, 6, 6, 16, 0, 4, 6), 32, 16, []int{0, 1}},
		{list(1, 1, 2, 2, 1, 1, 2, 2), list(1, 1, 2, 2), 16, 16, []int{0}},
		// Two bands of the whole are one band in the tile where they are alike: none of the other tile's edges cut it.
		{list(4, 0, 8, 8, 20, 3, 4, 2), list(4, 0, 8, 8, 20, 3, 4, 2), 32, 16, []int{0, 1}},
		{list(0, 0, 20, 3, 0, 3, 18, 3), list(0, 0, 16, 6, 16, 0, 4, 3, 16, 3, 2, 3), 32, 16, []int{0, 1}},
		// A band that goes past a tile's lower edge is one in each of both.
		{list(2, 14, 3, 5), list(2, 14, 3, 2, 2, 16, 3, 3), 16, 32, []int{0, 1}},
		// In a tile it is a list in form: cut at the edges of all that lies there.
		{list(0, 0, 2, 2, 1, 1, 2, 2), list(0, 0, 2, 1, 0, 1, 3, 1, 1, 2, 2, 1), 16, 16, []int{0}},
	} {
		if got := tiles.Touched(c.l, c.w, c.h); !slices.Equal(got, c.touched) {
			t.Errorf("Touched of %v in %d by %d is %v, not %v", c.l, c.w, c.h, got, c.touched)
		}
		if got := tiles.Split(c.l, c.w, c.h); !slices.Equal(got, c.split) {
			t.Errorf("Split of %v in %d by %d is %v, not %v", c.l, c.w, c.h, got, c.split)
		}
	}
}

func TestEachPixel(t *testing.T) {
	const w, h = 35, 34
	for y := -1; y <= h; y++ {
		for x := -1; x <= w; x++ {
			cut(t, list(x, y, 1, 1), w, h)
		}
	}
}

func TestEachEdge(t *testing.T) {
	const w, h = 49, 20
	for from := range w {
		for to := from + 1; to <= w+1; to++ {
			cut(t, list(from, 2, to-from, 1), w, h)
			cut(t, list(2, from, 1, to-from), h, w)
		}
	}
}

func TestRectanglesWithoutPixels(t *testing.T) {
	for _, size := range sizes()[:40] {
		w, h := size[0], size[1]
		for _, r := range append(wrongRects(), outside(w, h)...) {
			l := []api.Rect{r}
			if n, s := tiles.Touched(l, w, h), tiles.Split(l, w, h); len(n) != 0 || len(s) != 0 {
				t.Fatalf("of %v in %d by %d there is %v, %v", r, w, h, n, s)
			}
			cut(t, append(l, at(0, 0, 1, 1)), w, h)
		}
	}
}

func TestListsOfAnySize(t *testing.T) {
	n := numbers(1)
	for _, size := range sizes()[:121] {
		for range 4 {
			cut(t, n.rects(n.below(8), size[0], size[1]), size[0], size[1])
		}
		cut(t, n.rects(30, size[0], size[1]), size[0], size[1])
	}
	for range 20 {
		w, h := 1+n.below(side), 1+n.below(side)
		cut(t, n.rects(n.below(12), w, h), w, h)
	}
}

func TestSplitOfScatteredPixels(t *testing.T) {
	n := numbers(2)
	for range 30 {
		var l []api.Rect
		for range n.below(300) {
			l = append(l, at(n.below(40), n.below(40), 1, 1))
		}
		cut(t, l, 33, 36)
	}
}

func TestLongLists(t *testing.T) {
	n := numbers(3)
	var points, wide []api.Rect
	for i := range side * side {
		if x, y := i%side, i/side; (x+y)%2 == 0 {
			points = append(points, at(x, y, 1, 1))
		}
	}
	if got := tiles.Split(points, side, side); len(got) != side*side/2 {
		t.Errorf("Split of a board's points are %d", len(got))
	}
	if got := tiles.Touched(points, side, side); len(got) != 256 {
		t.Errorf("Touched of a board's points are %d", len(got))
	}
	// Edges far out of the picture, each of its own, that all overlap.
	for range 20000 {
		x, y := n.below(top), n.below(top)
		wide = append(wide, at(-x, -y, x+1+n.below(300), y+1+n.below(300)))
	}
	if got := tiles.Touched(wide, side, side); len(got) != 256 {
		t.Errorf("Touched of wide rectangles are %d", len(got))
	}
	if got := tiles.Split(wide, side, side); len(got) != 256 {
		t.Errorf("Split of wide rectangles are %d", len(got))
	}
}

// P10.4

func TestSums(t *testing.T) {
	for _, c := range []struct {
		m    api.Image
		want []uint32
	}{
		// h is 811c9dc5; three bytes of 0 make it h times 16777619 to the third.
		{image(1, 1, 0), []uint32{0x4ab0f7b7}},
		// The bytes 61, 62, 63 are "abc".
		{image(1, 1, 0x616263), []uint32{0x1a47e90b}},
		// The bytes of "foobar", beside each other and one above the other.
		{image(2, 1, 0x666f6f, 0x626172), []uint32{0xbf9cf968}},
		{image(1, 2, 0x666f6f, 0x626172), []uint32{0xbf9cf968}},
		// What is no part of a colour counts for nothing.
		{image(2, 1, 0xff666f6f, 0x01626172), []uint32{0xbf9cf968}},
	} {
		if got := tiles.Sums(c.m); !slices.Equal(got, c.want) {
			t.Errorf("Sums of %v is %x, not %x", c.m, got, c.want)
		}
	}
}

func TestSumsOfAnyPicture(t *testing.T) {
	n := numbers(4)
	for _, size := range sizes() {
		summed(t, n.picture(size[0], size[1]))
		summed(t, image(size[0], size[1], make([]uint32, size[0]*size[1])...))
	}
	for range 30 {
		summed(t, n.picture(1+n.below(side), 1+n.below(side)))
	}
}

func TestSumsOfEachByte(t *testing.T) {
	seen := map[uint32]int{}
	for b := range uint32(256) {
		for shift := 0; shift < 24; shift += 8 {
			m := image(1, 1, b<<shift)
			summed(t, m)
			seen[tiles.Sums(m)[0]]++
		}
	}
	if len(seen) != 3*255+1 {
		t.Errorf("of pixels of one byte there are %d sums", len(seen))
	}
}

func TestSumsCountTheLowBitsAlone(t *testing.T) {
	n := numbers(5)
	m := n.picture(20, 19)
	high := image(20, 19)
	for _, c := range m.Pix {
		high.Pix = append(high.Pix, c|uint32(n.below(256))<<24)
	}
	if got, want := tiles.Sums(high), summed(t, m); !slices.Equal(got, want) {
		t.Errorf("with high bits the sums are %x, not %x", got, want)
	}
}

func TestSumsOfNoPicture(t *testing.T) {
	for _, m := range []api.Image{
		{}, image(2, 1, 1), image(1, 1), image(1, 1, 1, 2), image(2, 2, 1, 2, 3), image(16, 16, make([]uint32, 255)...), image(16, 16, make([]uint32, 257)...),
		image(0, 0), image(-1, -1, 1), image(-2, 3), image(257, 1, make([]uint32, 257)...), image(1, 257, make([]uint32, 257)...),
		image(0, 5), image(5, 0), image(1<<32, 1<<32), image(side, side), image(-4, -4, make([]uint32, 16)...),
	} {
		if got := tiles.Sums(m); len(got) != 0 {
			t.Errorf("Sums of %d pixels as %d by %d is %x", len(m.Pix), m.W, m.H, got)
		}
	}
}

// P10.5

func TestTilesAreThePicture(t *testing.T) {
	for _, size := range sizes() {
		w, h := size[0], size[1]
		grid := tiles.Grid(w, h)
		area := 0
		for _, tile := range grid {
			if rect.Empty(tile) || tile.W > api.Tile || tile.H > api.Tile {
				t.Fatalf("a tile of %d by %d is %v", w, h, tile)
			}
			area += rect.Area(tile)
		}
		// Together they have as many pixels as one by one: they lie apart.
		if area != w*h || !slices.Equal(region.Of(grid...), list(0, 0, w, h)) {
			t.Fatalf("the tiles of %d by %d are %v", w, h, grid)
		}
	}
}

func TestSplitIsWhatTheListHas(t *testing.T) {
	n := numbers(6)
	for range 150 {
		w, h := 1+n.below(80), 1+n.below(80)
		l := n.rects(n.below(9), w, h)
		parts, grid := tiles.Split(l, w, h), tiles.Grid(w, h)
		area := 0
		var touched []int
		for _, r := range parts {
			in := func(tile api.Rect) bool { return rect.In(r, tile) }
			number := slices.IndexFunc(grid, in)
			if rect.Empty(r) || number < 0 {
				t.Fatalf("Split of %v in %d by %d has %v", l, w, h, r)
			}
			area += rect.Area(r)
			touched = append(touched, number)
		}
		if area != region.Area(parts) || !region.Same(parts, region.And(l, list(0, 0, w, h))) {
			t.Fatalf("Split of %v in %d by %d is %v", l, w, h, parts)
		}
		if got, want := tiles.Touched(l, w, h), slices.Compact(touched); !slices.Equal(got, want) {
			t.Fatalf("Touched of %v in %d by %d is %v, but Split has parts of %v", l, w, h, got, want)
		}
	}
}

func TestPicturesThatAreAlikeInATile(t *testing.T) {
	n := numbers(7)
	for range 40 {
		w, h := 1+n.below(70), 1+n.below(70)
		a, b := n.picture(w, h), n.picture(w, h)
		grid := tiles.Grid(w, h)
		alike := n.below(len(grid))
		for y := grid[alike].Y; y < grid[alike].Y+grid[alike].H; y++ {
			from, to := y*w+grid[alike].X, y*w+grid[alike].X+grid[alike].W
			copy(b.Pix[from:to], a.Pix[from:to])
		}
		sumsA, sumsB := tiles.Sums(a), tiles.Sums(b)
		for i := range grid {
			if (sumsA[i] == sumsB[i]) != (i == alike) {
				t.Fatalf("pictures %d by %d that are alike in tile %d have sums %x and %x in tile %d", w, h, alike, sumsA[i], sumsB[i], i)
			}
		}
	}
}

// One pixel that is another one changes its own tile's sum alone.
func TestOnePixelIsInOneSum(t *testing.T) {
	n := numbers(8)
	m := n.picture(20, 18)
	before := tiles.Sums(m)
	for i := range m.Pix {
		m.Pix[i] ^= 1 << n.below(24)
		for number, sum := range tiles.Sums(m) {
			if (sum != before[number]) != (number == numberOf(i%20, i/20, 20)) {
				t.Fatalf("the pixel %d %d turned the sum of tile %d", i%20, i/20, number)
			}
		}
		before = tiles.Sums(m)
	}
}

// Rules

func TestWhatIsHandedInStays(t *testing.T) {
	n := numbers(9)
	for range 100 {
		whole := n.rects(6, 40, 40)
		kept := slices.Clone(whole)
		m := n.picture(20, 20)
		room := append(m.Pix, 91, 92, 93)
		m.Pix = room[:400]
		pixels := slices.Clone(room)
		touched, split, sums, grid := tiles.Touched(whole[:4], 40, 40), tiles.Split(whole[:4], 40, 40), tiles.Sums(m), tiles.Grid(40, 40)
		scribble(touched, -1)
		scribble(split, at(-1, -2, -3, -4))
		scribble(sums, 7)
		scribble(grid, at(-1, -2, -3, -4))
		if !slices.Equal(whole, kept) || !slices.Equal(room, pixels) {
			t.Fatalf("what was handed in, %v, is now %v", kept, whole)
		}
		cut(t, whole[:4], 40, 40)
		summed(t, m)
		if got := tiles.Grid(40, 40); !slices.Equal(got, gridOf(40, 40)) {
			t.Fatalf("Grid is now %v", got)
		}
	}
}

// scribble writes over a list, and over the room behind its end.
func scribble[T any](l []T, by T) {
	l = l[:cap(l)]
	for i := range l {
		l[i] = by
	}
}
