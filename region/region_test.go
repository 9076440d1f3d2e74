package region_test

import (
	"math"
	"slices"
	"testing"

	"vignette/api"
	"vignette/rect"
	"vignette/region"
)

const top = api.MaxCoord

// The model's pixels lie from lowest to highest, both ways.
const lowest, highest = -4, 12

type pixel struct{ x, y int }

type pixels map[pixel]bool

func at(x, y, w, h int) api.Rect { return api.Rect{X: x, Y: y, W: w, H: h} }

// list are rectangles, told as four numbers each.
func list(n ...int) []api.Rect {
	var l []api.Rect
	for i := 0; i+3 < len(n); i += 4 {
		l = append(l, at(n[i], n[i+1], n[i+2], n[i+3]))
	}
	return l
}

// wrong are rectangles that have no pixels.
func wrong() []api.Rect {
	return []api.Rect{
		{}, at(1, 1, 0, 5), at(1, 1, 5, 0), at(1, 1, -1, 2), at(1, 1, 2, -1), at(-2, -2, -2, -2), at(top, 0, 1, 1), at(0, top, 1, 1), at(top, top, 0, 0),
		at(-top-1, 0, top+5, 4), at(0, -top-1, 4, top+5), at(-top, 0, 2*top+1, 1), at(0, -top, 1, 2*top+1), at(1, 1, math.MaxInt, 1), at(1, 1, 1, math.MaxInt),
		at(math.MaxInt, 0, math.MaxInt, 1), at(math.MinInt, math.MinInt, math.MaxInt, math.MaxInt), at(math.MinInt, 0, math.MinInt, 3), at(2, 2, math.MinInt, 2),
	}
}

// set are a list's pixels, told one by one.
func set(l []api.Rect) pixels {
	s := pixels{}
	for y := lowest; y <= highest; y++ {
		for x := lowest; x <= highest; x++ {
			for _, r := range l {
				if rect.Has(r, x, y) {
					s[pixel{x, y}] = true
				}
			}
		}
	}
	return s
}

// filter are the model's pixels that keep tells.
func filter(keep func(p pixel) bool) pixels {
	s := pixels{}
	for y := lowest; y <= highest; y++ {
		for x := lowest; x <= highest; x++ {
			if p := (pixel{x, y}); keep(p) {
				s[p] = true
			}
		}
	}
	return s
}

// rowOf are the rectangles, 1 high, of a row's pixels, as wide as they can be.
func rowOf(s pixels, y int) []api.Rect {
	var l []api.Rect
	for x := lowest; x <= highest; x++ {
		switch {
		case !s[pixel{x, y}]:
		case s[pixel{x - 1, y}]:
			l[len(l)-1].W++
		default:
			l = append(l, at(x, y, 1, 1))
		}
	}
	return l
}

// formOf is the list in form of the model's pixels: row by row, rows that go on with the one above put together.
func formOf(s pixels) []api.Rect {
	var l, last []api.Rect
	for y := lowest; y <= highest+1; y++ {
		row := rowOf(s, y)
		alike := slices.EqualFunc(last, row, func(a, b api.Rect) bool { return a.X == b.X && a.W == b.W })
		if !alike {
			l = append(l, last...)
			last = row
			continue
		}
		for i := range last {
			last[i].H++
		}
	}
	return l
}

// formed tells whether a list is in form, as the chapter's words say it, each pair held against each other.
func formed(l []api.Rect) bool {
	for i, r := range l {
		if rect.Empty(r) {
			return false
		}
		for _, o := range l[:i] {
			below := o.Y+o.H <= r.Y
			beside := o.Y == r.Y && o.H == r.H && o.X+o.W < r.X
			if !below && !beside {
				return false
			}
		}
	}
	return !doubled(l)
}

// doubled tells whether some band begins where another one ends, and is like it across.
func doubled(l []api.Rect) bool {
	type span struct{ x, w int }
	spans, ends := map[int][]span{}, map[int]int{}
	for _, r := range l {
		spans[r.Y] = append(spans[r.Y], span{r.X, r.W})
		ends[r.Y] = r.Y + r.H
	}
	for y, s := range spans {
		if slices.Equal(s, spans[ends[y]]) {
			return true
		}
	}
	return false
}

// dice are numbers that are the same in every run.
type dice uint64

func (d *dice) below(n int) int {
	*d = *d*6364136223846793005 + 1442695040888963407
	return int(uint64(*d)>>33) % n
}

// some is a list of a few rectangles within the model's pixels; some of them have none.
func (d *dice) some() []api.Rect {
	var l []api.Rect
	for range d.below(7) {
		if d.below(9) == 0 {
			l = append(l, wrong()[d.below(len(wrong()))])
			continue
		}
		l = append(l, at(d.below(9)-2, d.below(9)-2, d.below(6), d.below(6)))
	}
	return l
}

// pairs hands on pairs of lists: each of two small rectangles, and many of some.
func pairs(hand func(a, b []api.Rect)) {
	var small []api.Rect
	for _, x := range []int{-1, 0, 1, 2} {
		for _, w := range []int{0, 1, 2, 3} {
			for _, y := range []int{-1, 0, 1, 2} {
				for _, h := range []int{0, 1, 3} {
					small = append(small, at(x, y, w, h))
				}
			}
		}
	}
	for _, r := range small {
		for _, o := range small[:len(small)/2] {
			hand([]api.Rect{r}, []api.Rect{o})
		}
	}
	d := dice(1)
	for range 4000 {
		hand(d.some(), d.some())
	}
}

// told fails unless a call's answer is what is wanted, and in form.
func told(t *testing.T, call string, got, want []api.Rect) {
	t.Helper()
	if !slices.Equal(got, want) {
		t.Fatalf("%s is %v, not %v", call, got, want)
	}
	if !formed(got) || !region.Is(got) {
		t.Fatalf("%s is %v, which is not in form", call, got)
	}
}

// P2.1

func TestOf(t *testing.T) {
	for _, x := range []struct{ l, want []api.Rect }{
		{nil, nil},
		{list(3, 4, 5, 6), list(3, 4, 5, 6)},
		{list(0, 0, 2, 2, 1, 1, 2, 2), list(0, 0, 2, 1, 0, 1, 3, 1, 1, 2, 2, 1)},
		{list(0, 0, 1, 1, 1, 0, 1, 1, 0, 1, 2, 1), list(0, 0, 2, 2)},
		{list(0, 0, 0, 5, 1, 1, -1, 2), nil},
		{list(2, 0, 1, 1, 0, 0, 1, 1), list(0, 0, 1, 1, 2, 0, 1, 1)},
		{list(0, 2, 1, 1, 0, 0, 1, 1), list(0, 0, 1, 1, 0, 2, 1, 1)},
		{list(0, 1, 1, 1, 0, 0, 1, 1), list(0, 0, 1, 2)},
		{list(0, 0, 1, 1, 1, 1, 1, 1), list(0, 0, 1, 1, 1, 1, 1, 1)},
		{list(0, 0, 3, 3, 1, 1, 1, 1), list(0, 0, 3, 3)},
		{list(1, 1, 1, 1, 1, 1, 1, 1), list(1, 1, 1, 1)},
		{list(0, 0, 1, 3, 2, 1, 1, 1), list(0, 0, 1, 1, 0, 1, 1, 1, 2, 1, 1, 1, 0, 2, 1, 1)},
		{list(0, 0, 1, 2, 2, 0, 1, 1), list(0, 0, 1, 1, 2, 0, 1, 1, 0, 1, 1, 1)},
		{list(0, 0, 1, 1, 2, 0, 1, 1, 0, 1, 1, 1, 2, 1, 1, 1), list(0, 0, 1, 2, 2, 0, 1, 2)},
		{list(0, 0, 2, 1, 0, 1, 1, 1, 1, 1, 2, 1), list(0, 0, 2, 1, 0, 1, 3, 1)},
		{list(0, 0, 1, 1, 0, 1, 2, 1), list(0, 0, 1, 1, 0, 1, 2, 1)},
		{list(0, 0, 2, 1, 1, 1, 2, 1), list(0, 0, 2, 1, 1, 1, 2, 1)},
	} {
		told(t, "Of", region.Of(x.l...), x.want)
	}
	told(t, "Of()", region.Of(), nil)
	told(t, "Of(wrong ones)", region.Of(wrong()...), nil)
	told(t, "Of(wrong ones and one)", region.Of(append(wrong(), at(7, 7, 2, 1))...), list(7, 7, 2, 1))
}

func TestOfAtTheBounds(t *testing.T) {
	whole := at(-top, -top, 2*top, 2*top)
	told(t, "Of(whole)", region.Of(whole, at(0, 0, 1, 1)), []api.Rect{whole})
	told(t, "Of(halves)", region.Of(at(0, -top, top, 2*top), at(-top, -top, top, 2*top)), []api.Rect{whole})
	told(t, "Of(corners)", region.Of(at(top-1, top-1, 1, 1), at(-top, -top, 1, 1)), list(-top, -top, 1, 1, top-1, top-1, 1, 1))
	told(t, "Minus(whole, inner)", region.Minus([]api.Rect{whole}, list(1-top, 1-top, 2*top-2, 2*top-2)), list(
		-top, -top, 2*top, 1, -top, 1-top, 1, 2*top-2, top-1, 1-top, 1, 2*top-2, -top, top-1, 2*top, 1))
	told(t, "Or(rows)", region.Or(list(-top, top-1, 2*top, 1), list(-top, -top, 2*top, 1)), list(-top, -top, 2*top, 1, -top, top-1, 2*top, 1))
	told(t, "And(whole, edge)", region.And([]api.Rect{whole}, list(top-1, -top, 1, 5)), list(top-1, -top, 1, 5))
}

func TestAndOrMinus(t *testing.T) {
	told(t, "Minus", region.Minus(list(0, 0, 3, 3), list(1, 1, 1, 1)), list(0, 0, 3, 1, 0, 1, 1, 1, 2, 1, 1, 1, 0, 2, 3, 1))
	told(t, "Minus all", region.Minus(list(1, 1, 1, 1), list(0, 0, 3, 3)), nil)
	told(t, "Minus none", region.Minus(list(1, 1, 2, 2), wrong()), list(1, 1, 2, 2))
	told(t, "Minus of none", region.Minus(wrong(), list(1, 1, 2, 2)), nil)
	told(t, "And", region.And(list(0, 0, 3, 3), list(1, 1, 5, 1)), list(1, 1, 2, 1))
	told(t, "And apart", region.And(list(0, 0, 2, 2), list(2, 0, 2, 2, 0, 2, 2, 2)), nil)
	told(t, "And none", region.And(list(0, 0, 3, 3), wrong()), nil)
	told(t, "And of one that lies twice in one list", region.And(list(0, 0, 2, 2, 0, 0, 2, 2), nil), nil)
	told(t, "Or", region.Or(list(0, 0, 1, 1), list(0, 2, 1, 1)), list(0, 0, 1, 1, 0, 2, 1, 1))
	told(t, "Or that touches", region.Or(list(0, 0, 1, 1), list(1, 0, 1, 1)), list(0, 0, 2, 1))
	told(t, "Or none", region.Or(wrong(), list(0, 0, 1, 1)), list(0, 0, 1, 1))
	told(t, "Or of none", region.Or(nil, nil), nil)
}

func TestSetsOfAnyLists(t *testing.T) {
	pairs(func(a, b []api.Rect) {
		inA, inB := set(a), set(b)
		told(t, "Of", region.Of(a...), formOf(inA))
		told(t, "And", region.And(a, b), formOf(filter(func(p pixel) bool { return inA[p] && inB[p] })))
		told(t, "Or", region.Or(a, b), formOf(filter(func(p pixel) bool { return inA[p] || inB[p] })))
		told(t, "Minus", region.Minus(a, b), formOf(filter(func(p pixel) bool { return inA[p] && !inB[p] })))
	})
}

// P2.2

func TestIs(t *testing.T) {
	for _, x := range []struct {
		l    []api.Rect
		want bool
	}{
		{nil, true}, {[]api.Rect{}, true}, {list(0, 0, 1, 1), true}, {list(-top, -top, 2*top, 2*top), true},
		{list(0, 0, 1, 1, 1, 0, 1, 1), false}, {list(0, 0, 1, 2, 2, 0, 1, 1), false}, {list(0, 0, 1, 1, 2, 0, 1, 2), false},
		{list(0, 0, 1, 1, 2, 0, 1, 1), true}, {list(2, 0, 1, 1, 0, 0, 1, 1), false}, {list(0, 0, 1, 1, 0, 0, 1, 1), false}, {list(0, 0, 3, 1, 1, 0, 5, 1), false},
		{list(0, 1, 1, 1, 0, 0, 2, 1), false}, {list(0, 0, 1, 2, 5, 1, 1, 2), false}, {list(0, 0, 1, 2, 5, 2, 1, 2), true}, {list(0, 0, 1, 1, 2, 1, 1, 1, 4, 0, 1, 1), false},
		{list(0, 0, 1, 1, 0, 1, 1, 1), false}, {list(0, 0, 1, 1, 0, 2, 1, 1), true}, {list(0, 0, 1, 1, 0, 1, 2, 1), true}, {list(0, 0, 1, 1, 1, 1, 1, 1), true},
		{list(0, 0, 1, 1, 0, 1, 1, 1, 2, 1, 1, 1), true}, {list(0, 0, 1, 1, 2, 0, 1, 1, 0, 1, 1, 1), true},
		{list(0, 0, 1, 1, 2, 0, 1, 1, 0, 1, 1, 4, 2, 1, 1, 4), false}, {list(0, 0, 1, 1, 2, 0, 1, 1, 0, 1, 1, 4, 2, 1, 2, 4), true},
		{list(0, 0, 1, 1, 2, 0, 1, 1, 0, 1, 1, 4, 3, 1, 1, 4), true}, {list(0, 0, 1, 1, 5, 1, 1, 1, 0, 2, 1, 1), true}, {list(0, 0, 1, 1, 5, 1, 1, 1, 5, 2, 1, 1), false},
	} {
		if got := region.Is(x.l); got != x.want || formed(x.l) != x.want {
			t.Errorf("Is(%v) is %v", x.l, got)
		}
	}
	for _, r := range wrong() {
		if region.Is([]api.Rect{r}) || region.Is([]api.Rect{r, at(0, top/2, 1, 1)}) || region.Is([]api.Rect{at(0, -top, 1, 1), r}) {
			t.Errorf("Is tells true of a list with %v", r)
		}
	}
}

func TestIsOfShortLists(t *testing.T) {
	var parts []api.Rect
	for _, y := range []int{0, 1, 2} {
		for _, x := range []int{0, 1, 2} {
			for _, w := range []int{0, 1, 2} {
				parts = append(parts, at(x, y, w, 1), at(x, y, w, 2))
			}
		}
	}
	in := 0
	asked := func(l ...api.Rect) {
		if got := region.Is(l); got != formed(l) || got != slices.Equal(l, formOf(set(l))) {
			t.Fatalf("Is(%v) is %v", l, got)
		} else if got {
			in++
		}
	}
	for _, a := range parts {
		for _, b := range parts {
			asked(a, b)
			for _, c := range parts {
				asked(a, b, c)
			}
		}
	}
	if in == 0 {
		t.Error("no list was in form")
	}
}

func TestIsOfFormsThatAreSpoilt(t *testing.T) {
	d := dice(2)
	for range 3000 {
		l := region.Of(d.some()...)
		if !region.Is(l) {
			t.Fatalf("Is(%v) is false", l)
		}
		if len(l) == 0 {
			continue
		}
		i, j := d.below(len(l)), d.below(len(l))
		l[i], l[j] = l[j], l[i]
		r := &l[d.below(len(l))]
		field := []*int{&r.X, &r.Y, &r.W, &r.H}[d.below(4)]
		*field += d.below(3) - 1
		if got := region.Is(l); got != formed(l) {
			t.Fatalf("Is(%v) is %v", l, got)
		}
	}
}

// P2.3

func TestHas(t *testing.T) {
	l := append(wrong(), list(0, 0, 1, 1, 5, 5, 1, 1, -top, -top, 1, 1, top-1, top-1, 1, 1)...)
	for _, x := range []struct {
		x, y int
		want bool
	}{
		{0, 0, true}, {5, 5, true}, {0, 5, false}, {5, 0, false}, {1, 1, false}, {6, 5, false}, {-top, -top, true}, {top - 1, top - 1, true}, {top, top, false},
		{-top - 1, -top, false}, {math.MaxInt, math.MaxInt, false}, {math.MinInt, math.MinInt, false}, {math.MaxInt, 0, false}, {0, math.MinInt, false},
	} {
		if got := region.Has(l, x.x, x.y); got != x.want {
			t.Errorf("Has %d %d is %v", x.x, x.y, got)
		}
	}
	if region.Has(nil, 0, 0) {
		t.Error("an empty list has a pixel")
	}
}

func TestHasAreaSameOfAnyLists(t *testing.T) {
	same := 0
	pairs(func(a, b []api.Rect) {
		inA, inB := set(a), set(b)
		for y := lowest; y <= highest; y++ {
			for x := lowest; x <= highest; x++ {
				if got := region.Has(a, x, y); got != inA[pixel{x, y}] {
					t.Fatalf("Has(%v, %d, %d) is %v", a, x, y, got)
				}
			}
		}
		if got := region.Area(a); got != len(inA) {
			t.Fatalf("Area(%v) is %d, not %d", a, got, len(inA))
		}
		want := slices.Equal(formOf(inA), formOf(inB))
		if got := region.Same(a, b); got != want || region.Same(b, a) != want {
			t.Fatalf("Same(%v, %v) is %v", a, b, got)
		}
		if want {
			same++
		}
		if !region.Same(a, formOf(inA)) || !region.Same(formOf(inA), a) {
			t.Fatalf("%v has not the pixels of its form", a)
		}
	})
	if same == 0 {
		t.Error("no two were the same")
	}
}

func TestArea(t *testing.T) {
	for _, x := range []struct {
		l    []api.Rect
		want int
	}{
		{nil, 0}, {wrong(), 0}, {list(0, 0, 2, 2, 1, 1, 2, 2), 7}, {list(0, 0, 2, 2, 0, 0, 2, 2), 4},
		{list(-top, -top, 2*top, 2*top, -top, -top, 2*top, 2*top), 1 << 42}, {list(-top, 0, 2*top, 1, 0, -top, 1, 2*top), 4*top - 1},
	} {
		if got := region.Area(x.l); got != x.want {
			t.Errorf("Area(%v) is %d, not %d", x.l, got, x.want)
		}
	}
}

func TestSame(t *testing.T) {
	for _, x := range []struct {
		a, b []api.Rect
		want bool
	}{
		{nil, nil, true}, {nil, wrong(), true}, {wrong(), []api.Rect{}, true}, {nil, list(0, 0, 1, 1), false}, {list(0, 0, 1, 1), wrong(), false},
		{list(0, 0, 2, 1), list(0, 0, 1, 1, 1, 0, 1, 1), true}, {list(0, 0, 2, 1), list(0, 0, 1, 2), false}, {list(0, 0, 2, 2), list(0, 0, 2, 2, 1, 1, 1, 1), true},
		{list(0, 0, 2, 2), list(0, 0, 2, 2, 1, 1, 2, 1), false}, {list(-top, -top, 2*top, 2*top), list(-top, -top, 2*top, 2*top-1), false},
	} {
		if region.Same(x.a, x.b) != x.want || region.Same(x.b, x.a) != x.want {
			t.Errorf("Same(%v, %v) is not %v", x.a, x.b, x.want)
		}
	}
}

// P2.4

func TestShift(t *testing.T) {
	whole := list(-top, -top, 2*top, 2*top)
	for _, x := range []struct {
		l      []api.Rect
		dx, dy int
		want   []api.Rect
	}{
		{nil, 1, 1, nil}, {wrong(), 0, 0, nil}, {wrong(), 1, -1, nil}, {wrong(), -5, 3, nil},
		{list(0, 0, 1, 1, 5, 5, 1, 1), 1, -1, list(1, -1, 1, 1, 6, 4, 1, 1)},
		{list(5, 5, 1, 1, 0, 0, 1, 1, 1, 0, 1, 1), 0, 0, list(0, 0, 2, 1, 5, 5, 1, 1)},
		{list(0, 0, 2, 2, 1, 1, 2, 2), 3, 4, list(3, 4, 2, 1, 3, 5, 3, 1, 4, 6, 2, 1)},
		{whole, 0, 0, whole}, {whole, 1, 0, nil}, {whole, 0, -1, nil},
		// One of the rectangles that are handed in goes out of bounds, and is gone whole; the one that it touches stays.
		{list(0, 0, 1, 1, 1, 0, 1, 1), top - 1, 0, list(top-1, 0, 1, 1)}, {list(0, 0, 2, 1), top - 1, 0, nil},
		{list(0, 0, 1, 1, 0, 1, 1, 1), 0, top - 1, list(0, top-1, 1, 1)}, {list(0, 0, 1, 1, 0, -1, 1, 1), 0, -top, list(0, -top, 1, 1)},
		{list(0, 0, 1, 1), top, 0, nil}, {list(0, 0, 1, 1), -top, -top, list(-top, -top, 1, 1)}, {list(0, 0, 1, 1), -top - 1, 0, nil},
		{list(1, 1, 1, 1), math.MaxInt, 0, nil}, {list(1, 1, 1, 1), 0, math.MaxInt, nil}, {list(-1, -1, 1, 1), math.MinInt, math.MinInt, nil},
	} {
		told(t, "Shift", region.Shift(x.l, x.dx, x.dy), x.want)
	}
}

func TestShiftOfAnyLists(t *testing.T) {
	d := dice(3)
	for range 2000 {
		l, dx, dy := d.some(), d.below(5)-2, d.below(5)-2
		s := set(l)
		told(t, "Shift", region.Shift(l, dx, dy), formOf(filter(func(p pixel) bool { return s[pixel{p.x - dx, p.y - dy}] })))
	}
}

// P2.5

func TestBounds(t *testing.T) {
	for _, x := range []struct {
		l    []api.Rect
		want api.Rect
	}{
		{nil, api.Rect{}}, {wrong(), api.Rect{}}, {list(5, 5, 0, 9, 9, 9, 3, 0), api.Rect{}}, {list(3, 4, 5, 6), at(3, 4, 5, 6)},
		{list(0, 0, 1, 1, 5, 5, 1, 1), at(0, 0, 6, 6)}, {list(5, 5, 1, 1, 0, 0, 1, 1), at(0, 0, 6, 6)}, {list(0, 5, 1, 1, 5, 0, 1, 1), at(0, 0, 6, 6)},
		{list(9, 9, 0, 9, 2, 2, 1, 1, -9, -9, 3, -1), at(2, 2, 1, 1)}, {append(wrong(), list(7, -7, 2, 2)...), at(7, -7, 2, 2)},
		{list(-top, -top, 1, 1, top-1, top-1, 1, 1), at(-top, -top, 2*top, 2*top)},
	} {
		if got := region.Bounds(x.l); got != x.want {
			t.Errorf("Bounds(%v) is %v, not %v", x.l, got, x.want)
		}
	}
}

func TestBoundsOfAnyLists(t *testing.T) {
	pairs(func(l, _ []api.Rect) {
		var want api.Rect
		for _, r := range formOf(set(l)) {
			want = rect.Or(want, r)
		}
		if got := region.Bounds(l); got != want {
			t.Fatalf("Bounds(%v) is %v, not %v", l, got, want)
		}
	})
}

// P2.6

func TestOneFormOfAPixelSet(t *testing.T) {
	d := dice(4)
	pairs(func(l, _ []api.Rect) {
		form := region.Of(l...)
		told(t, "Of(form)", region.Of(form...), form)
		other := slices.Concat(l, form)
		for i := range other {
			j := d.below(len(other))
			other[i], other[j] = other[j], other[i]
		}
		told(t, "Of(the same pixels)", region.Of(other...), form)
	})
}

func TestSetsAreSets(t *testing.T) {
	pairs(func(a, b []api.Rect) {
		both, one, other, any := region.And(a, b), region.Minus(a, b), region.Minus(b, a), region.Or(a, b)
		told(t, "what both have, and what a has alone", region.Or(both, one), region.Of(a...))
		told(t, "all three", region.Or(region.Or(both, one), other), any)
		told(t, "what both have of what a has alone", region.And(one, b), nil)
		told(t, "And the other way", region.And(b, a), both)
		told(t, "Or the other way", region.Or(b, a), any)
		if region.Area(a) != region.Area(both)+region.Area(one) || region.Area(any) != region.Area(a)+region.Area(b)-region.Area(both) {
			t.Fatalf("areas of %v and %v do not add up", a, b)
		}
		if region.Same(a, b) != (len(one)+len(other) == 0) {
			t.Fatalf("Same of %v and %v", a, b)
		}
	})
}

// Rules

// roomy is a list with room behind its end, in which there are numbers, too.
func roomy(l []api.Rect) (whole, piece []api.Rect) {
	whole = append(slices.Clone(l), at(91, 92, 93, 94), at(95, 96, 97, 98))
	return whole, whole[:len(l)]
}

func TestWhatIsHandedInStays(t *testing.T) {
	d := dice(5)
	for range 300 {
		wholeA, a := roomy(d.some())
		wholeB, b := roomy(d.some())
		keptA, keptB := slices.Clone(wholeA), slices.Clone(wholeB)
		answers := [][]api.Rect{region.Of(a...), region.And(a, b), region.Or(a, b), region.Minus(a, b), region.Shift(a, 0, 0), region.Or(a, nil), region.Minus(a, nil)}
		region.Is(a)
		region.Has(a, 1, 1)
		region.Area(a)
		region.Bounds(a)
		region.Same(a, b)
		for _, l := range answers {
			l = l[:cap(l)]
			for i := range l {
				l[i] = at(-1, -2, -3, -4)
			}
		}
		if !slices.Equal(wholeA, keptA) || !slices.Equal(wholeB, keptB) {
			t.Fatalf("what was handed in, %v and %v, is now %v and %v", keptA, keptB, wholeA, wholeB)
		}
	}
}

func TestAnswersAreTheirOwn(t *testing.T) {
	l := region.Of(at(0, 0, 1, 1), at(5, 5, 1, 1))
	for _, again := range [][]api.Rect{region.Of(l...), region.Or(l, nil), region.And(l, l), region.Minus(l, nil), region.Shift(l, 0, 0)} {
		again[0].X = 77
		if l[0].X != 0 {
			t.Fatal("an answer shares memory with what was handed in")
		}
	}
}

func TestLongLists(t *testing.T) {
	var chess, steps []api.Rect
	for y := range api.MaxSide {
		for x := range api.MaxSide {
			if (x+y)%2 == 0 {
				chess = append(chess, at(x, y, 1, 1))
			}
		}
	}
	for i := range 1000 {
		steps = append(steps, at(i, i, 1000, 1000))
	}
	whole := list(0, 0, api.MaxSide, api.MaxSide)
	half := api.MaxSide * api.MaxSide / 2
	told(t, "Of(chess)", region.Of(chess...), chess)
	if rest := region.Minus(whole, chess); len(rest) != half || region.Area(rest) != half || !region.Same(region.Or(rest, chess), whole) {
		t.Error("a chess board, and what is left of it, are not the whole")
	}
	if got := region.Area(steps); got != 1000*1000+999*1999 {
		t.Errorf("Area of steps is %d", got)
	}
	if got := len(region.Of(steps...)); got != 1999 {
		t.Errorf("steps have %d rectangles", got)
	}
}
