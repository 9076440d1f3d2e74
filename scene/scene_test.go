package scene_test

import (
	"math"
	"slices"
	"testing"

	"vignette/api"
	"vignette/scene"
)

const top = api.MaxCoord

// anySize are numbers at the edges that the document names, and far past them.
func anySize() []int {
	return []int{
		math.MinInt, math.MinInt + 1, -1 << 32, -top - 1, -top, -top + 1, -257, -256, -2, -1, 0, 1, 2, 3, 16, 63, 64, 65, 255, 256, 257,
		65535, 65536, top - 1, top, top + 1, 1 << 31, 1<<32 + 1, math.MaxInt - 1, math.MaxInt,
	}
}

// made is a scene, 8 by 8, behind some mutations, none of which is refused, and its model.
func made(t *testing.T, l ...api.Mutation) (*scene.Scene, model) {
	t.Helper()
	s, err := scene.New(8, 8)
	if err != api.OK {
		t.Fatalf("New(8, 8): %v", err)
	}
	of := newModel(8, 8)
	for i, m := range l {
		var want api.Errno
		of, want = of.do(m)
		if err := s.Do(m); err != api.OK || want != api.OK {
			t.Fatalf("%d, %+v: %v, and %v of the model", i, m, err, want)
		}
	}
	shows(t, s, of)
	return s, of
}

// done fails unless a mutation is answered so, and the scene stands behind it as its model does, which it answers.
func done(t *testing.T, s *scene.Scene, l model, m api.Mutation, want api.Errno) model {
	t.Helper()
	to, err := l.do(m)
	if err != want {
		t.Fatalf("%+v: %v of the model, not %v", m, err, want)
	}
	if err := s.Do(m); err != want {
		t.Fatalf("%+v: %v, not %v", m, err, want)
	}
	shows(t, s, to)
	return to
}

func add(n api.Node) api.Mutation { return api.Mutation{Op: api.OpAdd, Node: n} }

func group(id, parent int) api.Node {
	return api.Node{Id: id, Parent: parent, Kind: api.Group, W: 2, H: 2, Alpha: 255}
}

func solid(id, parent int) api.Node {
	return api.Node{Id: id, Parent: parent, Kind: api.Solid, X: 1, Y: 1, W: 2, H: 2, Alpha: 255, Color: 0x0a0b0c}
}

func bitmap(id, parent, w, h int) api.Node {
	n := api.Node{Id: id, Parent: parent, Kind: api.Bitmap, W: w, H: h, Alpha: 255}
	for i := range w * h {
		n.Pix = append(n.Pix, uint32(id*1000+i))
	}
	return n
}

// few is a scene with nodes of all kinds: 1 is a Group with the Group 2, in which the Solid 3 and the Bitmap 4, 3 by 2, are; in the root the Solid 5, the Bitmap 6, 1 by 1, and the Group 7 are.
func few(t *testing.T) (*scene.Scene, model) {
	t.Helper()
	return made(t, add(group(1, 0)), add(group(2, 1)), add(solid(3, 2)), add(bitmap(4, 2, 3, 2)), add(solid(5, 0)), add(bitmap(6, 0, 1, 1)), add(group(7, 0)))
}

// chain are Groups, each in the one ahead, from the first number on.
func chain(first, parent, n int) []api.Mutation {
	var l []api.Mutation
	for i := range n {
		l = append(l, add(group(first+i, parent)))
		parent = first + i
	}
	return l
}

// with is a node one of whose fields is another one.
func with(n api.Node, change func(n *api.Node)) api.Node {
	change(&n)
	return n
}

// P15.1

func TestNew(t *testing.T) {
	for _, w := range anySize() {
		for _, h := range anySize() {
			s, err := scene.New(w, h)
			if 1 <= w && w <= 256 && 1 <= h && h <= 256 {
				if err != api.OK || s == nil {
					t.Fatalf("New(%d, %d): %v, %v", w, h, s, err)
				}
				shows(t, s, newModel(w, h))
			} else if err != api.ErrArg || s != nil {
				t.Errorf("New(%d, %d): %v, %v", w, h, s, err)
			}
		}
	}
}

func TestTheRoot(t *testing.T) {
	s, _ := scene.New(256, 1)
	n, err := s.Node(0)
	if want := (api.Node{Parent: -1, Kind: api.Group, W: 256, H: 1, Alpha: 255}); err != api.OK || !alike(n, want) {
		t.Errorf("Node(0): %+v, %v", n, err)
	}
	if ids, kids := s.Ids(), s.Kids(0); !slices.Equal(ids, []int{0}) || len(kids) != 0 {
		t.Errorf("Ids %v, Kids(0) %v", ids, kids)
	}
	if kids := s.Kids(-1); len(kids) != 0 {
		t.Errorf("Kids(-1) %v: there is no such node", kids)
	}
}

// P15.2, OpAdd

// TestAddOfAnyFields tries each field of a number at its bounds, of nodes of all kinds.
func TestAddOfAnyFields(t *testing.T) {
	changes := []struct {
		field  string
		change func(n *api.Node, by int)
		least  int
		most   int
	}{
		{"Id", func(n *api.Node, by int) { n.Id = by }, 1, top},
		{"X", func(n *api.Node, by int) { n.X = by }, -top, top},
		{"Y", func(n *api.Node, by int) { n.Y = by }, -top, top},
		{"Z", func(n *api.Node, by int) { n.Z = by }, -top, top},
		{"W", func(n *api.Node, by int) { n.W = by }, 1, 256},
		{"H", func(n *api.Node, by int) { n.H = by }, 1, 256},
	}
	for _, c := range changes {
		for _, by := range anySize() {
			for _, n := range []api.Node{group(9, 0), solid(9, 0), bitmap(9, 0, 1, 1)} {
				c.change(&n, by)
				if n.Kind == api.Bitmap && 1 <= n.W*n.H && n.W*n.H <= 65536 {
					n.Pix = make([]uint32, n.W*n.H)
				}
				want := api.ErrArg
				if c.least <= by && by <= c.most {
					want = api.OK
				}
				s, l := made(t)
				done(t, s, l, add(n), want)
			}
		}
	}
}

func TestAddOfAllKinds(t *testing.T) {
	for kind := range 256 {
		n := api.Node{Id: 1, Kind: uint8(kind), W: 1, H: 1}
		if uint8(kind) == api.Bitmap {
			n.Pix = []uint32{5}
		}
		want := api.ErrArg
		if 1 <= kind && kind <= 3 {
			want = api.OK
		}
		s, l := made(t)
		done(t, s, l, add(n), want)
	}
}

func TestAddOfAnyPixels(t *testing.T) {
	for _, size := range [][2]int{{1, 1}, {1, 2}, {2, 1}, {3, 2}, {5, 7}, {256, 1}, {1, 256}, {256, 256}} {
		w, h := size[0], size[1]
		for _, n := range []int{0, 1, w, h, w + h, w*h - 1, w * h, w*h + 1, 2 * w * h} {
			want := api.ErrArg
			if n == w*h {
				want = api.OK
			}
			s, l := made(t)
			done(t, s, l, add(api.Node{Id: 1, Kind: api.Bitmap, W: w, H: h, Pix: make([]uint32, n)}), want)
		}
	}
	for _, n := range []api.Node{group(1, 0), solid(1, 0)} {
		for _, pixels := range []int{0, 1, 2, 3, 4, 5} {
			want := api.ErrArg
			if pixels == 0 {
				want = api.OK
			}
			s, l := made(t)
			done(t, s, l, add(with(n, func(n *api.Node) { n.Pix = make([]uint32, pixels) })), want)
		}
	}
	// Sizes that may not be, though so many numbers there are as their product is, where it goes round, too.
	for _, size := range [][2]int{{0, 0}, {0, 5}, {-1, -1}, {-2, -3}, {257, 1}, {1, 257}, {1 << 32, 1 << 32}, {math.MinInt, 2}, {math.MaxInt, math.MaxInt}} {
		s, l := made(t)
		done(t, s, l, add(api.Node{Id: 1, Kind: api.Bitmap, W: size[0], H: size[1], Pix: make([]uint32, min(max(size[0]*size[1], 0), 300))}), api.ErrArg)
	}
}

func TestAddOfAnyColors(t *testing.T) {
	for _, x := range []struct{ color, low uint32 }{
		{0, 0}, {1, 1}, {0x0a0b0c, 0x0a0b0c}, {0x800000, 0x800000}, {0xffffff, 0xffffff}, {0x1000000, 0}, {0xff000000, 0}, {0x80000001, 1}, {0xffffffff, 0xffffff}, {0x12345678, 0x345678},
	} {
		s, l := made(t)
		l = done(t, s, l, add(with(solid(1, 0), func(n *api.Node) { n.Color = x.color })), api.OK)
		if n, _ := s.Node(1); n.Color != x.low {
			t.Errorf("a Solid of %x has the colour %x", x.color, n.Color)
		}
		want := api.OK
		if x.low != 0 {
			want = api.ErrArg
		}
		l = done(t, s, l, add(with(group(2, 0), func(n *api.Node) { n.Color = x.color })), want)
		l = done(t, s, l, add(with(bitmap(3, 0, 2, 1), func(n *api.Node) { n.Color = x.color })), want)
		done(t, s, l, add(with(bitmap(4, 0, 2, 1), func(n *api.Node) { n.Pix = []uint32{x.color, ^x.color} })), api.OK)
		if n, _ := s.Node(4); !slices.Equal(n.Pix, []uint32{x.low, x.low ^ 0xffffff}) {
			t.Errorf("a Bitmap of %x has the pixels %x", x.color, n.Pix)
		}
	}
}

// TestAddKeepsAllFields has nodes all of whose fields are unlike those of others.
func TestAddKeepsAllFields(t *testing.T) {
	nodes := []api.Node{
		{Id: 3, Parent: 0, Kind: api.Group, X: -5, Y: 6, W: 7, H: 8, Z: -9, Hidden: true, Alpha: 10},
		{Id: top, Parent: 3, Kind: api.Solid, X: -top, Y: top, W: 256, H: 1, Z: top, Alpha: 0, Color: 0xfedcba},
		{Id: 1, Parent: 3, Kind: api.Bitmap, X: top, Y: -top, W: 2, H: 3, Z: -top, Hidden: true, Alpha: 255, Pix: []uint32{1, 2, 3, 4, 5, 6}},
	}
	var l []api.Mutation
	for _, n := range nodes {
		l = append(l, add(n))
	}
	s, _ := made(t, l...)
	for _, want := range nodes {
		if n, err := s.Node(want.Id); err != api.OK || !alike(n, want) {
			t.Errorf("Node(%d): %+v, %v", want.Id, n, err)
		}
	}
}

func TestAddOfWhatThereIs(t *testing.T) {
	s, l := few(t)
	for id := 1; id <= 7; id++ {
		done(t, s, l, add(solid(id, 0)), api.ErrTwice)
		done(t, s, l, add(solid(id, 99)), api.ErrTwice)
	}
}

func TestAddIntoAnyParent(t *testing.T) {
	s, l := few(t)
	for _, parent := range append(anySize(), 4, 5, 6, 7, 20) {
		want := api.ErrNone
		if parent == 0 || parent == 1 || parent == 2 || parent == 7 {
			want = api.OK
		}
		done(t, s.Clone(), l, add(solid(20, parent)), want)
	}
}

func TestAddUpToTheLimit(t *testing.T) {
	s, l := made(t, chain(100, 0, 8)...)
	for id := 1; len(l) < 64; id++ {
		l = done(t, s, l, add(solid(id, 100+id%7)), api.OK)
	}
	if n := len(s.Ids()); n != api.MaxNodes {
		t.Errorf("%d nodes", n)
	}
	full := s.Clone()
	done(t, full, l, add(solid(90, 0)), api.ErrFull)
	// What is asked ahead of the room, and behind it.
	done(t, full, l, add(solid(90, 107)), api.ErrFull)
	done(t, full, l, add(solid(90, 91)), api.ErrNone)
	done(t, full, l, add(solid(90, 1)), api.ErrNone)
	done(t, full, l, add(solid(1, 0)), api.ErrTwice)
	done(t, full, l, add(solid(1, 91)), api.ErrTwice)
	done(t, full, l, add(solid(0, 0)), api.ErrArg)
	done(t, full, l, add(with(solid(1, 91), func(n *api.Node) { n.W = 0 })), api.ErrArg)
	// There is room again behind what is gone.
	l = done(t, s, l, api.Mutation{Op: api.OpRemove, Node: api.Node{Id: 1}}, api.OK)
	l = done(t, s, l, add(solid(90, 107)), api.ErrDeep)
	l = done(t, s, l, add(solid(90, 0)), api.OK)
	done(t, s, l, add(solid(1, 0)), api.ErrFull)
}

func TestAddTooDeep(t *testing.T) {
	s, l := made(t, chain(1, 0, 8)...)
	for _, n := range []api.Node{group(9, 8), solid(9, 8), bitmap(9, 8, 1, 1)} {
		done(t, s, l, add(n), api.ErrDeep)
	}
	done(t, s, l, add(group(9, 7)), api.OK)
	s, l = made(t, chain(1, 0, 7)...)
	for _, n := range []api.Node{group(9, 7), solid(9, 7), bitmap(9, 7, 1, 1)} {
		done(t, s.Clone(), l, add(n), api.OK)
	}
}

// P15.2, all others

func TestNoOperations(t *testing.T) {
	s, l := few(t)
	for op := range 256 {
		if 1 <= op && op <= 9 {
			continue
		}
		for _, n := range []api.Node{{}, {Id: 5}, {Id: 99}, {Id: -1, X: math.MinInt}, solid(20, 0)} {
			done(t, s, l, api.Mutation{Op: uint8(op), Node: n}, api.ErrArg)
		}
	}
}

// others are the operations on a node that there is, with fields that may be.
func others(id int) []api.Mutation {
	n := api.Node{Id: id, Parent: 7, X: 1, Y: 2, Z: 3, W: 4, H: 5, Color: 6, Pix: []uint32{7}, Alpha: 8, Hidden: true}
	var l []api.Mutation
	for op := api.OpRemove; op <= api.OpParent; op++ {
		l = append(l, api.Mutation{Op: op, Node: n})
	}
	return l
}

func TestOthersOfNoNodeAndOfTheRoot(t *testing.T) {
	s, l := few(t)
	for _, id := range append(anySize(), 8, 20) {
		want := api.ErrNone
		if id == 0 {
			want = api.ErrRoot
		} else if l.find(id) >= 0 {
			continue
		}
		for _, m := range others(id) {
			done(t, s, l, m, want)
			// A parent that there is not is asked for behind the node.
			m.Node.Parent = 99
			done(t, s, l, m, want)
		}
	}
	// The root is not even asked for its state.
	done(t, s, l, api.Mutation{Op: api.OpPaint}, api.ErrRoot)
	done(t, s, l, api.Mutation{Op: api.OpParent}, api.ErrRoot)
	done(t, s, l, api.Mutation{Op: api.OpParent, Node: api.Node{Parent: 2}}, api.ErrRoot)
}

// TestFieldsOfOthers tries each number that an operation names, of nodes of all kinds, of none, and of the root.
func TestFieldsOfOthers(t *testing.T) {
	s, l := few(t)
	for _, x := range []struct {
		op          uint8
		least, most int
		change      func(n *api.Node, by int)
	}{
		{api.OpMove, -top, top, func(n *api.Node, by int) { n.X = by }},
		{api.OpMove, -top, top, func(n *api.Node, by int) { n.Y = by }},
		{api.OpRaise, -top, top, func(n *api.Node, by int) { n.Z = by }},
		{api.OpSize, 1, 256, func(n *api.Node, by int) { n.W = by }},
		{api.OpSize, 1, 256, func(n *api.Node, by int) { n.H = by }},
	} {
		for _, by := range anySize() {
			for id, want := range map[int]api.Errno{0: api.ErrRoot, 1: api.OK, 5: api.OK, 6: api.OK, 9: api.ErrNone, -1: api.ErrNone, math.MaxInt: api.ErrNone} {
				if x.op == api.OpSize && id == 6 {
					want = api.ErrState
				}
				if by < x.least || by > x.most {
					want = api.ErrArg
				}
				n := api.Node{Id: id, W: 1, H: 1}
				x.change(&n, by)
				done(t, s.Clone(), l, api.Mutation{Op: x.op, Node: n}, want)
			}
		}
	}
}

// TestOtherFieldsDoNotMatter has operations all of whose other fields may not be.
func TestOtherFieldsDoNotMatter(t *testing.T) {
	wild := api.Node{Parent: -9, Kind: 200, X: math.MinInt, Y: math.MaxInt, W: -1, H: 1 << 40, Z: top + 1, Hidden: true, Alpha: 77, Color: 0xffffffff, Pix: []uint32{1, 2, 3}}
	for _, x := range []struct {
		op     uint8
		change func(n *api.Node)
	}{
		{api.OpRemove, func(n *api.Node) {}},
		{api.OpMove, func(n *api.Node) { n.X, n.Y = 3, -4 }},
		{api.OpRaise, func(n *api.Node) { n.Z = -2 }},
		{api.OpShow, func(n *api.Node) {}},
		{api.OpAlpha, func(n *api.Node) {}},
		{api.OpSize, func(n *api.Node) { n.W, n.H = 9, 1 }},
		{api.OpParent, func(n *api.Node) { n.Parent = 7 }},
	} {
		for _, id := range []int{1, 2, 3, 5} {
			s, l := few(t)
			n := with(wild, x.change)
			n.Id = id
			done(t, s, l, api.Mutation{Op: x.op, Node: n}, api.OK)
		}
	}
	s, l := few(t)
	n := wild
	n.Id = 5
	l = done(t, s, l, api.Mutation{Op: api.OpPaint, Node: n}, api.OK)
	n.Id, n.Pix = 4, []uint32{1, 2, 3, 4, 5, 6 | 1<<31}
	done(t, s, l, api.Mutation{Op: api.OpPaint, Node: n}, api.OK)
}

func TestEachOther(t *testing.T) {
	for _, id := range []int{1, 2, 3, 4, 5, 6} {
		for _, m := range others(id) {
			s, l := few(t)
			want := api.OK
			switch {
			case m.Op == api.OpPaint && (id == 1 || id == 2 || id == 4), m.Op == api.OpSize && (id == 4 || id == 6):
				want = api.ErrState
			}
			done(t, s, l, m, want)
		}
	}
}

func TestRemove(t *testing.T) {
	for _, x := range []struct {
		id   int
		left []int
	}{
		{1, []int{0, 5, 6, 7}}, {2, []int{0, 1, 5, 6, 7}}, {3, []int{0, 1, 2, 4, 5, 6, 7}}, {4, []int{0, 1, 2, 3, 5, 6, 7}},
		{5, []int{0, 1, 2, 3, 4, 6, 7}}, {6, []int{0, 1, 2, 3, 4, 5, 7}}, {7, []int{0, 1, 2, 3, 4, 5, 6}},
	} {
		s, l := few(t)
		m := api.Mutation{Op: api.OpRemove, Node: api.Node{Id: x.id}}
		l = done(t, s, l, m, api.OK)
		if ids := s.Ids(); !slices.Equal(ids, x.left) {
			t.Errorf("behind %d: %v", x.id, ids)
		}
		done(t, s, l, m, api.ErrNone)
		// Its number is free, and nothing of it is left.
		l = done(t, s, l, add(group(x.id, 0)), api.OK)
		if kids := s.Kids(x.id); len(kids) != 0 {
			t.Errorf("%d comes back with %v", x.id, kids)
		}
	}
}

func TestRemoveOfAllThatMayBeWithin(t *testing.T) {
	l := chain(1, 0, 8)
	for id := 9; id < 64; id++ {
		l = append(l, add(solid(id, 1+id%7)))
	}
	s, of := made(t, l...)
	of = done(t, s, of, api.Mutation{Op: api.OpRemove, Node: api.Node{Id: 4}}, api.OK)
	done(t, s, of, api.Mutation{Op: api.OpRemove, Node: api.Node{Id: 1}}, api.OK)
	if ids := s.Ids(); !slices.Equal(ids, []int{0}) {
		t.Errorf("left: %v", ids)
	}
}

func TestSize(t *testing.T) {
	s, l := few(t)
	l = done(t, s, l, api.Mutation{Op: api.OpSize, Node: api.Node{Id: 2, W: 256, H: 1}}, api.OK)
	l = done(t, s, l, api.Mutation{Op: api.OpSize, Node: api.Node{Id: 5, W: 1, H: 256}}, api.OK)
	// The size that it has, too.
	l = done(t, s, l, api.Mutation{Op: api.OpSize, Node: api.Node{Id: 4, W: 3, H: 2}}, api.ErrState)
	l = done(t, s, l, api.Mutation{Op: api.OpSize, Node: api.Node{Id: 4, W: 3, H: 2, Pix: make([]uint32, 6)}}, api.ErrState)
	l = done(t, s, l, api.Mutation{Op: api.OpSize, Node: api.Node{Id: 4, W: 0, H: 2}}, api.ErrArg)
	done(t, s, l, api.Mutation{Op: api.OpSize, Node: api.Node{Id: 0, W: 4, H: 4}}, api.ErrRoot)
}

func TestPaint(t *testing.T) {
	paint := func(id int, color uint32, pix ...uint32) api.Mutation {
		return api.Mutation{Op: api.OpPaint, Node: api.Node{Id: id, Color: color, Pix: pix}}
	}
	s, l := few(t)
	for _, color := range []uint32{0, 1, 0xffffff, 0x1000000, 0xffffffff, 0x80112233} {
		l = done(t, s, l, paint(5, color), api.OK)
		l = done(t, s, l, paint(5, color, 1, 2, 3), api.OK)
		if n, _ := s.Node(5); n.Color != color<<8>>8 || len(n.Pix) != 0 {
			t.Errorf("the Solid has %x, %x", n.Color, n.Pix)
		}
		l = done(t, s, l, paint(4, color, color, 2, 3, 4, ^color, 6), api.OK)
		if n, _ := s.Node(4); n.Color != 0 || n.Pix[0] != color<<8>>8 || n.Pix[4] != ^color<<8>>8 {
			t.Errorf("the Bitmap has %x, %x", n.Color, n.Pix)
		}
		l = done(t, s, l, paint(6, color, color), api.OK)
	}
	for n := range 14 {
		want := api.ErrState
		if n == 6 {
			want = api.OK
		}
		l = done(t, s, l, paint(4, 0, make([]uint32, n)...), want)
		done(t, s, l, paint(7, 0, make([]uint32, n)...), api.ErrState)
	}
	// It is the node's size that counts, not what is told.
	m := paint(4, 0, 1, 2)
	m.Node.W, m.Node.H = 2, 1
	done(t, s, l, m, api.ErrState)
}

// P15.2, OpParent

func hang(id, parent int) api.Mutation {
	return api.Mutation{Op: api.OpParent, Node: api.Node{Id: id, Parent: parent}}
}

func TestParentOfEachPair(t *testing.T) {
	s, l := few(t)
	groups := []int{0, 1, 2, 7}
	for id := 1; id <= 7; id++ {
		for _, parent := range append(anySize(), 4, 5, 6, 7, 8) {
			want := api.OK
			switch {
			case !slices.Contains(groups, parent):
				want = api.ErrNone
			case parent == id, id == 1 && parent == 2:
				want = api.ErrState
			}
			to := s.Clone()
			done(t, to, l, hang(id, parent), want)
			if n, _ := to.Node(id); want == api.OK && n.Parent != parent {
				t.Errorf("the parent of %d is %d, not %d", id, n.Parent, parent)
			}
		}
	}
}

// TestParentOfChains puts a chain of Groups into another one, at each depth.
func TestParentOfChains(t *testing.T) {
	for high := 1; high <= 8; high++ {
		for deep := 0; deep <= 8; deep++ {
			s, l := made(t, append(chain(100, 0, deep), chain(200, 0, high)...)...)
			want := api.OK
			if deep+high > 8 {
				want = api.ErrDeep
			}
			to := 0
			if deep > 0 {
				to = 99 + deep
			}
			l = done(t, s, l, hang(200, to), want)
			// Back again, and to where it is.
			l = done(t, s, l, hang(200, 0), api.OK)
			l = done(t, s, l, hang(200, 0), api.OK)
			done(t, s, l, hang(200, 199+high), api.ErrState)
		}
	}
}

// TestParentCountsTheDeepestWithin has several nodes within, the deepest of which is neither the first nor the last one.
func TestParentCountsTheDeepestWithin(t *testing.T) {
	l := append(chain(1, 0, 5), add(group(20, 0)), add(solid(21, 20)), add(group(22, 20)), add(solid(23, 20)), add(bitmap(24, 22, 1, 1)))
	s, of := made(t, l...)
	of = done(t, s, of, hang(20, 5), api.OK)
	of = done(t, s, of, hang(20, 0), api.OK)
	of = done(t, s, of, add(group(6, 5)), api.OK)
	of = done(t, s, of, hang(20, 6), api.ErrDeep)
	of = done(t, s, of, hang(22, 6), api.OK)
	of = done(t, s, of, hang(20, 6), api.OK)
	done(t, s, of, hang(24, 20), api.OK)
}

// P15.3

func TestKids(t *testing.T) {
	s, l := made(t)
	zs := map[int]int{5: 0, 3: 0, 9: -1, 1: 2, 8: -top, 2: top, 7: 0, 4: -1}
	for _, id := range []int{7, 1, 9, 2, 8, 5, 4, 3} {
		l = done(t, s, l, add(with(solid(id, 0), func(n *api.Node) { n.Z = zs[id] })), api.OK)
	}
	if kids := s.Kids(0); !slices.Equal(kids, []int{8, 4, 9, 3, 5, 7, 1, 2}) {
		t.Errorf("Kids(0): %v", kids)
	}
	if kids := s.Kids(5); len(kids) != 0 {
		t.Errorf("Kids of a Solid: %v", kids)
	}
	for range 20 {
		if kids := s.Kids(0); !slices.Equal(kids, []int{8, 4, 9, 3, 5, 7, 1, 2}) {
			t.Fatalf("Kids(0), asked again: %v", kids)
		}
	}
	done(t, s, l, api.Mutation{Op: api.OpRaise, Node: api.Node{Id: 5, Z: -1}}, api.OK)
	if kids := s.Kids(0); !slices.Equal(kids, []int{8, 4, 5, 9, 3, 7, 1, 2}) {
		t.Errorf("Kids(0) behind OpRaise: %v", kids)
	}
}

// TestExamples are those of the chapter.
func TestExamples(t *testing.T) {
	s, l := made(t)
	l = done(t, s, l, add(solid(3, 0)), api.OK)
	l = done(t, s, l, add(solid(3, 0)), api.ErrTwice)
	l = done(t, s, l, add(solid(4, 3)), api.ErrNone)
	l = done(t, s, l, api.Mutation{Op: api.OpMove, Node: api.Node{Id: 0}}, api.ErrRoot)
	l = done(t, s, l, api.Mutation{Op: api.OpMove, Node: api.Node{Id: 9}}, api.ErrNone)
	l = done(t, s, l, add(with(group(5, 0), func(n *api.Node) { n.Z = -1 })), api.OK)
	done(t, s, l, api.Mutation{Op: api.OpPaint, Node: api.Node{Id: 5}}, api.ErrState)
	if kids := s.Kids(0); !slices.Equal(kids, []int{5, 3}) {
		t.Errorf("Kids(0): %v", kids)
	}
}

func TestCloneGoesOnApart(t *testing.T) {
	s, l := few(t)
	for id := 1; id <= 7; id++ {
		for _, m := range append(others(id), add(group(20, id%3)), hang(id, 0)) {
			a, b := s.Clone(), s.Clone()
			a.Do(m)
			shows(t, b, l)
			shows(t, s, l)
			// And the other way.
			c := b.Clone()
			b.Do(m)
			shows(t, c, l)
			to, _ := l.do(m)
			shows(t, a, to)
			shows(t, b, to)
		}
	}
}

func TestNil(t *testing.T) {
	var s *scene.Scene
	for op := range 256 {
		if err := s.Do(api.Mutation{Op: uint8(op), Node: solid(1, 0)}); err != api.ErrNil {
			t.Errorf("Do of %d: %v", op, err)
		}
	}
	for _, id := range anySize() {
		if n, err := s.Node(id); err != api.ErrNil || !alike(n, api.Node{}) {
			t.Errorf("Node(%d): %+v, %v", id, n, err)
		}
		if kids := s.Kids(id); len(kids) != 0 {
			t.Errorf("Kids(%d): %v", id, kids)
		}
	}
	w, h := s.Size()
	if ids := s.Ids(); len(ids) != 0 || w != 0 || h != 0 || s.Clone() != nil {
		t.Errorf("%v, %d, %d, %v", ids, w, h, s.Clone())
	}
}

// TestASceneThatNoCallMade has no root: whatever is asked of it, there is nothing.
func TestASceneThatNoCallMade(t *testing.T) {
	var s scene.Scene
	for op := range 11 {
		for _, id := range anySize() {
			for _, parent := range []int{-1, 0, 1, id} {
				n := api.Node{Id: id, Parent: parent, Kind: api.Group, W: 1, H: 1, Pix: nil}
				if err := s.Do(api.Mutation{Op: uint8(op), Node: n}); err == api.OK {
					t.Errorf("Do of %d, %+v: %v", op, n, err)
				}
			}
			if n, err := s.Node(id); err != api.ErrNone || !alike(n, api.Node{}) || len(s.Kids(id)) != 0 {
				t.Errorf("Node(%d): %+v, %v; Kids %v", id, n, err, s.Kids(id))
			}
		}
	}
	if w, h := s.Size(); w != 0 || h != 0 || len(s.Ids()) != 0 || len(s.Clone().Ids()) != 0 {
		t.Errorf("%d, %d, %v", w, h, s.Ids())
	}
}

// R3

func TestWhatIsHandedInStays(t *testing.T) {
	room := []uint32{0xff000001, 0xff000002, 0xff000003, 0xff000004, 0xff000005, 0xff000006, 7, 8}
	want := slices.Clone(room)
	s, l := few(t)
	n := api.Node{Id: 20, Kind: api.Bitmap, W: 2, H: 3, Pix: room[:6]}
	l = done(t, s, l, add(n), api.OK)
	l = done(t, s, l, api.Mutation{Op: api.OpPaint, Node: api.Node{Id: 4, Pix: room[:6]}}, api.OK)
	if !slices.Equal(room, want) {
		t.Fatalf("what was handed in is now %x", room)
	}
	for i := range room {
		room[i] = 99
	}
	shows(t, s, l)
}

func TestAnswersAreTheirOwn(t *testing.T) {
	s, l := few(t)
	c := s.Clone()
	scribble := func(s *scene.Scene) {
		for id := range 8 {
			kids := s.Kids(id)
			for i := range kids[:cap(kids)] {
				kids[:cap(kids)][i] = 99
			}
			n, _ := s.Node(id)
			for i := range n.Pix[:cap(n.Pix)] {
				n.Pix[:cap(n.Pix)][i] = 99
			}
		}
		ids := s.Ids()
		for i := range ids[:cap(ids)] {
			ids[:cap(ids)][i] = 99
		}
	}
	for _, one := range []*scene.Scene{s, c} {
		scribble(one)
		shows(t, s, l)
		shows(t, c, l)
	}
}
