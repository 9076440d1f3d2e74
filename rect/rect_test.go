package rect_test

import (
	"math"
	"math/big"
	"testing"

	"vignette/api"
	"vignette/rect"
)

const top = api.MaxCoord

var zero api.Rect

func at(x, y, w, h int) api.Rect { return api.Rect{X: x, Y: y, W: w, H: h} }

// anySize are numbers at the edges that the document names, and far past them.
func anySize() []int {
	return []int{
		math.MinInt, math.MinInt + 1, math.MinInt + top, -4 * top, -2*top - 1, -2 * top, -top - 1, -top, -top + 1, -1,
		0, 1, 2, top - 1, top, top + 1, 2*top - 1, 2 * top, 2*top + 1, 4 * top, math.MaxInt - top, math.MaxInt - 1, math.MaxInt,
	}
}

// goodWay is the document's word 'good', one way, in numbers that do not wrap.
func goodWay(from, size int) bool {
	end := new(big.Int).Add(big.NewInt(int64(from)), big.NewInt(int64(size)))
	return from >= -top && size >= 0 && end.Cmp(big.NewInt(top)) <= 0
}

func good(r api.Rect) bool { return goodWay(r.X, r.W) && goodWay(r.Y, r.H) }

// eachEdge hands on the rectangles of any place and size one way, and of a few the other way.
func eachEdge(hand func(r api.Rect)) {
	others := [][2]int{{0, 1}, {-top, 2 * top}, {3, 0}, {top, 1}, {math.MinInt, math.MaxInt}}
	for _, from := range anySize() {
		for _, size := range anySize() {
			for _, o := range others {
				hand(at(from, o[0], size, o[1]))
				hand(at(o[0], from, o[1], size))
			}
		}
	}
}

// small are all rectangles of a few pixels around 0 0, with those that have no size or a wrong one.
func small() []api.Rect {
	var l []api.Rect
	for x := -1; x <= 1; x++ {
		for y := -1; y <= 1; y++ {
			for w := -1; w <= 3; w++ {
				for h := -1; h <= 3; h++ {
					l = append(l, at(x, y, w, h))
				}
			}
		}
	}
	return l
}

// wrong are rectangles that are not good.
func wrong() []api.Rect {
	return []api.Rect{
		at(0, 0, -1, 5), at(0, 0, 5, -1), at(-top-1, 0, 4, 4), at(0, -top-1, 4, 4), at(top, 0, 1, 1), at(0, top, 1, 1),
		at(1, 1, math.MaxInt, 1), at(1, 1, 1, math.MaxInt), at(math.MaxInt, 0, math.MaxInt, 1), at(math.MinInt, 0, math.MinInt, 1),
		at(math.MinInt, math.MinInt, math.MaxInt, math.MaxInt), at(2, 2, math.MinInt, 2), at(-top, -top, 2*top+1, 1), at(-2, -2, -2, -2),
	}
}

// edges are good rectangles that touch the bounds.
func edges() []api.Rect {
	return []api.Rect{
		at(-top, -top, 2*top, 2*top), at(-top, -top, 1, 1), at(top-1, top-1, 1, 1), at(-top, top-1, 2*top, 1), at(top-1, -top, 1, 2*top),
		at(top, top, 0, 0), at(-top, -top, 0, 0), at(top, 0, 0, 1), at(0, 0, top, top), at(-top, -top, top, top), at(0, 0, 1, 1), at(-3, -2, 7, 5),
	}
}

func all() []api.Rect {
	l := append(edges(), wrong()...)
	return append(l, at(0, 0, 4, 4), at(2, 2, 4, 4), at(5, 5, 0, 9), at(5, 5, 9, 0), zero)
}

// set are a small rectangle's pixels, told one by one from the document's words.
func set(r api.Rect) map[[2]int]bool {
	s := map[[2]int]bool{}
	for x := -3; x <= 6; x++ {
		for y := -3; y <= 6; y++ {
			if good(r) && r.X <= x && x < r.X+r.W && r.Y <= y && y < r.Y+r.H {
				s[[2]int{x, y}] = true
			}
		}
	}
	return s
}

// bounds is the least rectangle that has the pixels of both sets; the zero one, if there are none.
func bounds(sets ...map[[2]int]bool) api.Rect {
	x0, y0, x1, y1 := 99, 99, -99, -99
	for _, s := range sets {
		for p := range s {
			x0, y0, x1, y1 = min(x0, p[0]), min(y0, p[1]), max(x1, p[0]+1), max(y1, p[1]+1)
		}
	}
	if x0 == 99 {
		return zero
	}
	return at(x0, y0, x1-x0, y1-y0)
}

func meet(a, b map[[2]int]bool) map[[2]int]bool {
	s := map[[2]int]bool{}
	for p := range a {
		if b[p] {
			s[p] = true
		}
	}
	return s
}

// corners are places in and just beside the corners of two rectangles.
func corners(a, b api.Rect) [][2]int {
	var l [][2]int
	for _, x := range []int{a.X, a.X + a.W, b.X, b.X + b.W} {
		for _, y := range []int{a.Y, a.Y + a.H, b.Y, b.Y + b.H} {
			l = append(l, [2]int{x, y}, [2]int{x - 1, y}, [2]int{x, y - 1}, [2]int{x - 1, y - 1})
		}
	}
	return l
}

// P1.1

func TestGoodOfAnyNumbers(t *testing.T) {
	eachEdge(func(r api.Rect) {
		if got := rect.Good(r); got != good(r) {
			t.Errorf("Good(%v) is %v", r, got)
		}
	})
}

func TestGoodAtTheBounds(t *testing.T) {
	for _, x := range []struct {
		r    api.Rect
		want bool
	}{
		{zero, true}, {at(top-1, 0, 1, 1), true}, {at(top, 0, 1, 1), false}, {at(top, 0, 0, 1), true}, {at(top+1, 0, 0, 1), false},
		{at(0, top-1, 1, 1), true}, {at(0, top, 1, 1), false}, {at(0, top, 1, 0), true}, {at(0, top+1, 1, 0), false},
		{at(-top, 0, 1, 1), true}, {at(-top-1, 0, 1, 1), false}, {at(0, -top, 1, 1), true}, {at(0, -top-1, 1, 1), false},
		{at(-top, -top, 2*top, 2*top), true}, {at(-top, -top, 2*top+1, 1), false}, {at(-top, -top, 1, 2*top+1), false},
		{at(0, 0, -1, 0), false}, {at(0, 0, 0, -1), false}, {at(math.MaxInt, 0, math.MaxInt, 1), false}, {at(0, 1, 1, math.MaxInt), false},
	} {
		if got := rect.Good(x.r); got != x.want {
			t.Errorf("Good(%v) is %v", x.r, got)
		}
	}
}

func TestEmptyAndAreaOfAnyNumbers(t *testing.T) {
	eachEdge(func(r api.Rect) {
		want := 0
		if good(r) {
			want = r.W * r.H
		}
		if got := rect.Area(r); got != want {
			t.Errorf("Area(%v) is %d, not %d", r, got, want)
		}
		if got := rect.Empty(r); got != (want == 0) {
			t.Errorf("Empty(%v) is %v", r, got)
		}
	})
	if got := rect.Area(at(-top, -top, 2*top, 2*top)); got != 1<<42 {
		t.Errorf("Area of the greatest one is %d", got)
	}
}

func TestHasEachPixel(t *testing.T) {
	for _, r := range small() {
		s := set(r)
		for x := -3; x <= 6; x++ {
			for y := -3; y <= 6; y++ {
				if got := rect.Has(r, x, y); got != s[[2]int{x, y}] {
					t.Errorf("Has(%v, %d, %d) is %v", r, x, y, got)
				}
			}
		}
		if got := rect.Area(r); got != len(s) {
			t.Errorf("Area(%v) is %d, not %d", r, got, len(s))
		}
		if got := rect.Empty(r); got != (len(s) == 0) {
			t.Errorf("Empty(%v) is %v", r, got)
		}
	}
}

func TestHasOfAnyNumbers(t *testing.T) {
	whole := at(-top, -top, 2*top, 2*top)
	for _, x := range anySize() {
		for _, y := range anySize() {
			want := x >= -top && x < top && y >= -top && y < top
			if got := rect.Has(whole, x, y); got != want {
				t.Errorf("Has(%v, %d, %d) is %v", whole, x, y, got)
			}
			for _, r := range wrong() {
				if rect.Has(r, x, y) {
					t.Errorf("%v has %d %d, but is not good", r, x, y)
				}
			}
		}
	}
	for _, r := range wrong() {
		if rect.Has(r, r.X, r.Y) || rect.Has(r, 0, 0) || rect.Has(r, 2, 2) {
			t.Errorf("%v has a pixel, but is not good", r)
		}
	}
}

// P1.2

func TestAndInOfEachPair(t *testing.T) {
	for _, a := range small() {
		for _, b := range small() {
			both := meet(set(a), set(b))
			if got, want := rect.And(a, b), bounds(both); got != want {
				t.Fatalf("And(%v, %v) is %v, not %v", a, b, got, want)
			}
			if got, want := rect.In(a, b), len(both) == len(set(a)); got != want {
				t.Fatalf("In(%v, %v) is %v", a, b, got)
			}
		}
	}
}

func TestAnd(t *testing.T) {
	whole := at(-top, -top, 2*top, 2*top)
	for _, x := range []struct{ a, b, want api.Rect }{
		{at(0, 0, 4, 4), at(2, 2, 4, 4), at(2, 2, 2, 2)}, {at(0, 0, 2, 2), at(2, 0, 2, 2), zero}, {at(0, 0, 2, 2), at(0, 2, 2, 2), zero},
		{at(0, 0, 9, 1), at(4, -5, 1, 9), at(4, 0, 1, 1)}, {at(1, 1, 2, 2), at(7, 1, 2, 2), zero}, {at(1, 1, 2, 2), at(1, 7, 2, 2), zero},
		{whole, at(top-1, -top, 1, 5), at(top-1, -top, 1, 5)}, {whole, whole, whole}, {whole, at(top, 0, 0, 1), zero}, {whole, at(-top, -top, 0, 0), zero},
		{at(-top, -top, 1, 1), at(top-1, top-1, 1, 1), zero}, {at(0, 0, 4, 4), at(1, 1, 0, 2), zero}, {at(0, 0, 4, 4), at(1, 1, 2, 0), zero},
	} {
		if got := rect.And(x.a, x.b); got != x.want {
			t.Errorf("And(%v, %v) is %v, not %v", x.a, x.b, got, x.want)
		}
	}
	for _, r := range wrong() {
		for _, o := range all() {
			if rect.And(r, o) != zero || rect.And(o, r) != zero {
				t.Errorf("And of %v and %v: one is not good", r, o)
			}
		}
	}
}

func TestIn(t *testing.T) {
	whole := at(-top, -top, 2*top, 2*top)
	for _, x := range []struct {
		a, b api.Rect
		want bool
	}{
		{at(1, 1, 1, 1), at(0, 0, 2, 2), true}, {at(1, 1, 2, 1), at(0, 0, 2, 2), false}, {at(1, 1, 1, 2), at(0, 0, 2, 2), false},
		{at(0, 0, 2, 2), at(0, 0, 2, 2), true}, {at(0, 0, 2, 2), at(1, 1, 1, 1), false}, {at(-1, 0, 1, 1), at(0, 0, 2, 2), false},
		{at(top-1, top-1, 1, 1), whole, true}, {whole, at(-top, -top, 2*top, 2*top-1), false}, {whole, at(-top+1, -top, 2*top-1, 2*top), false},
		{at(9, 9, 0, 3), at(0, 0, 1, 1), true}, {at(9, 9, 3, 0), zero, true}, {at(9, 9, 1, 1), zero, false}, {zero, zero, true},
	} {
		if got := rect.In(x.a, x.b); got != x.want {
			t.Errorf("In(%v, %v) is %v", x.a, x.b, got)
		}
	}
	for _, r := range wrong() {
		for _, o := range all() {
			if !rect.In(r, o) {
				t.Errorf("In(%v, %v): what is not good has no pixels, and all of none are there", r, o)
			}
		}
		if rect.In(at(0, 0, 1, 1), r) {
			t.Errorf("In(0 0 1 1, %v): what is not good has no pixels", r)
		}
	}
}

// P1.3

func TestOrOfEachPair(t *testing.T) {
	for _, a := range small() {
		for _, b := range small() {
			if got, want := rect.Or(a, b), bounds(set(a), set(b)); got != want {
				t.Fatalf("Or(%v, %v) is %v, not %v", a, b, got, want)
			}
		}
	}
}

func TestOr(t *testing.T) {
	for _, x := range []struct{ a, b, want api.Rect }{
		{at(0, 0, 1, 1), at(3, 4, 1, 1), at(0, 0, 4, 5)}, {at(5, 5, 0, 9), at(1, 1, 1, 1), at(1, 1, 1, 1)}, {at(1, 1, 1, 1), at(5, 5, 9, 0), at(1, 1, 1, 1)},
		{at(0, 7, 2, 2), at(5, 1, 1, 1), at(0, 1, 6, 8)}, {at(0, 0, 9, 9), at(2, 2, 1, 1), at(0, 0, 9, 9)},
		{at(-top, -top, 1, 1), at(top-1, top-1, 1, 1), at(-top, -top, 2*top, 2*top)}, {at(-top, 5, 1, 1), at(top-1, 5, 1, 1), at(-top, 5, 2*top, 1)},
		{at(top, top, 0, 0), at(-top, -top, 1, 1), at(-top, -top, 1, 1)}, {at(5, 5, 0, 9), at(6, 6, 9, 0), zero}, {zero, zero, zero},
	} {
		if got := rect.Or(x.a, x.b); got != x.want {
			t.Errorf("Or(%v, %v) is %v, not %v", x.a, x.b, got, x.want)
		}
	}
	for _, r := range wrong() {
		for _, o := range all() {
			want := zero
			if !rect.Empty(o) {
				want = o
			}
			if rect.Or(r, o) != want || rect.Or(o, r) != want {
				t.Errorf("Or of %v and %v is not %v", r, o, want)
			}
		}
	}
}

// P1.4

func TestShiftByAnyNumbers(t *testing.T) {
	for _, r := range all() {
		for _, dx := range anySize() {
			for _, dy := range anySize() {
				want := shifted(r, dx, dy)
				if got := rect.Shift(r, dx, dy); got != want {
					t.Fatalf("Shift(%v, %d, %d) is %v, not %v", r, dx, dy, got, want)
				}
			}
		}
	}
}

// shifted is Shift in numbers that do not wrap.
func shifted(r api.Rect, dx, dy int) api.Rect {
	x := new(big.Int).Add(big.NewInt(int64(r.X)), big.NewInt(int64(dx)))
	y := new(big.Int).Add(big.NewInt(int64(r.Y)), big.NewInt(int64(dy)))
	if !good(r) || !x.IsInt64() || !y.IsInt64() {
		return zero
	}
	to := at(int(x.Int64()), int(y.Int64()), r.W, r.H)
	if !good(to) {
		return zero
	}
	return to
}

func TestShift(t *testing.T) {
	for _, x := range []struct {
		r      api.Rect
		dx, dy int
		want   api.Rect
	}{
		{at(1, 1, 2, 2), -1, 5, at(0, 6, 2, 2)}, {at(0, 0, 1, 1), top + 1, 0, zero}, {at(0, 0, 1, 1), top, 0, zero}, {at(0, 0, 1, 1), top - 1, 0, at(top-1, 0, 1, 1)},
		{at(0, 0, 1, 1), 0, top, zero}, {at(0, 0, 1, 1), 0, top - 1, at(0, top-1, 1, 1)}, {at(0, 0, 1, 1), -top, -top, at(-top, -top, 1, 1)},
		{at(0, 0, 1, 1), -top - 1, 0, zero}, {at(0, 0, 1, 1), 0, -top - 1, zero}, {at(-top, 0, 1, 1), 2*top - 1, 0, at(top-1, 0, 1, 1)},
		{at(3, 3, 0, 2), 1, 1, at(4, 4, 0, 2)}, {at(0, 0, 0, 0), top, top, at(top, top, 0, 0)}, {at(0, 0, 1, 1), math.MaxInt, 0, zero}, {at(0, 0, 1, 1), 0, math.MinInt, zero},
		{at(-top, -top, 1, 1), math.MinInt, math.MinInt, zero}, {at(top, top, 0, 0), math.MaxInt, math.MaxInt, zero}, {at(0, 0, -1, 5), 0, 0, zero}, {at(-top-1, 0, 1, 1), 1, 0, zero},
		{at(top, 0, 1, 1), -1, 0, zero}, {at(math.MaxInt, 0, 1, 1), -math.MaxInt, 0, zero},
	} {
		if got := rect.Shift(x.r, x.dx, x.dy); got != x.want {
			t.Errorf("Shift(%v, %d, %d) is %v, not %v", x.r, x.dx, x.dy, got, x.want)
		}
	}
}

// P1.5

func TestWhatFollowsOfPairs(t *testing.T) {
	for _, a := range all() {
		for _, b := range all() {
			and, or := rect.And(a, b), rect.Or(a, b)
			if and != rect.And(b, a) {
				t.Errorf("And of %v and %v is not alike both ways", a, b)
			}
			if !rect.In(and, a) || !rect.In(and, b) {
				t.Errorf("And of %v and %v is not in both", a, b)
			}
			if !rect.In(a, or) || !rect.In(b, or) {
				t.Errorf("Or of %v and %v has not both", a, b)
			}
			for _, p := range corners(a, b) {
				inA, inB := rect.Has(a, p[0], p[1]), rect.Has(b, p[0], p[1])
				if rect.Has(and, p[0], p[1]) != (inA && inB) {
					t.Errorf("And of %v and %v at %v", a, b, p)
				}
				if (inA || inB) && !rect.Has(or, p[0], p[1]) {
					t.Errorf("Or of %v and %v at %v", a, b, p)
				}
			}
		}
	}
}

func TestShiftBackIsTheRectangle(t *testing.T) {
	steps := []int{-2 * top, -top, -7, -1, 0, 1, 7, top - 1, top, 2*top - 1, 2 * top}
	back := 0
	for _, r := range all() {
		for _, dx := range steps {
			for _, dy := range steps {
				if shifted(r, dx, dy) == zero {
					continue
				}
				back++
				if got := rect.Shift(rect.Shift(r, dx, dy), -dx, -dy); got != r {
					t.Errorf("%v by %d %d and back is %v", r, dx, dy, got)
				}
			}
		}
	}
	if back == 0 {
		t.Error("no shift was tried")
	}
}
