package scene_test

import (
	"math"
	"slices"
	"testing"

	"vignette/api"
	"vignette/scene"
)

// dice goes on, from one number to the next, through numbers that look as if they came by chance.
type dice uint64

func (d *dice) below(n int) int {
	*d = *d*6364136223846793005 + 1442695040888963407
	return int(uint64(*d)>>33) % n
}

func (d *dice) of(l []int) int { return l[d.below(len(l))] }

// place is mostly a small number, and at times one at the bounds, or past them.
func (d *dice) place(edges ...int) int {
	if d.below(8) > 0 {
		return d.below(7) - 3
	}
	return d.of(edges)
}

func (d *dice) side() int {
	if d.below(12) > 0 {
		return 1 + d.below(4)
	}
	return d.of([]int{0, -1, 256, 257, math.MaxInt, math.MinInt})
}

// id is mostly a number up to the last one, and at times none that may be.
func (d *dice) id(last int) int {
	if d.below(30) > 0 {
		return d.below(last + 1)
	}
	return d.of([]int{-1, math.MinInt, top, top + 1, math.MaxInt})
}

// parent is mostly a Group that there is, and the last ones more often, so that chains grow.
func (d *dice) parent(l model, last int) int {
	if d.below(10) == 0 {
		return d.id(last)
	}
	var groups []int
	for _, n := range l {
		if n.Kind == api.Group {
			groups = append(groups, n.Id)
		}
	}
	from := max(0, len(groups)-4) * d.below(2)
	return d.of(groups[from:])
}

func (d *dice) pixels(n int) []uint32 {
	switch d.below(10) {
	case 0:
		n++
	case 1:
		n--
	}
	var l []uint32
	for range n {
		l = append(l, uint32(d.below(1<<31)*2+d.below(2)))
	}
	return l
}

// node is one with fields of which most may be.
func (d *dice) node(l model, last int) api.Node {
	far := []int{-top, top, -top - 1, top + 1, math.MinInt, math.MaxInt}
	n := api.Node{
		Id: d.id(last), Parent: d.parent(l, last), Kind: uint8(1 + d.below(3)),
		X: d.place(far...), Y: d.place(far...), Z: d.place(far...), W: d.side(), H: d.side(),
		Hidden: d.below(2) > 0, Alpha: uint8(d.below(256)),
	}
	if n.Kind == api.Solid || d.below(20) == 0 {
		n.Color = uint32(d.below(1<<31)) << d.below(2)
	}
	if d.below(40) == 0 {
		n.Kind = uint8(d.below(256))
	}
	return n
}

// mutation is any one: most of them may be done.
func (d *dice) mutation(l model, last int) api.Mutation {
	m := api.Mutation{Op: uint8(d.below(10)), Node: d.node(l, last)}
	if d.below(2) == 0 {
		m.Op = api.OpAdd
	}
	if m.Op == api.OpRemove && d.below(3) > 0 {
		m.Op = api.OpParent
	}
	n := &m.Node
	at := l.find(n.Id)
	switch {
	case m.Op == api.OpAdd && n.Kind == api.Bitmap && side(n.W) && side(n.H):
		n.Pix = d.pixels(n.W * n.H)
	case m.Op == api.OpPaint && at >= 0 && l[at].Kind == api.Bitmap:
		n.Pix = d.pixels(l[at].W * l[at].H)
	case d.below(30) == 0:
		n.Pix = d.pixels(3)
	}
	return m
}

// follows fails unless what the document says of any scene holds.
func follows(t *testing.T, s *scene.Scene) {
	t.Helper()
	ids := s.Ids()
	if len(ids) > 64 || !slices.IsSorted(ids) || ids[0] != 0 {
		t.Fatalf("Ids %v", ids)
	}
	parents := map[int]int{}
	for _, id := range ids {
		n, _ := s.Node(id)
		if (n.Parent == -1) != (id == 0) || n.Id != id {
			t.Fatalf("%d has the parent %d", id, n.Parent)
		}
		steps := 0
		for up := n; up.Id != 0; steps++ {
			var err api.Errno
			if up, err = s.Node(up.Parent); err != api.OK || up.Kind != api.Group || steps >= 8 {
				t.Fatalf("from %d, step %d: %+v, %v", id, steps+1, up, err)
			}
		}
		for _, kid := range s.Kids(id) {
			if other, twice := parents[kid]; twice {
				t.Fatalf("%d is one of the Kids of %d and of %d", kid, other, id)
			}
			parents[kid] = id
		}
	}
	for _, id := range ids[1:] {
		n, _ := s.Node(id)
		if parent, is := parents[id]; !is || parent != n.Parent {
			t.Fatalf("%d is one of the Kids of %d, not of %d", id, parent, n.Parent)
		}
	}
	if len(parents) != len(ids)-1 {
		t.Fatalf("Kids are %v, Ids %v", parents, ids)
	}
}

// came is which operation was answered what.
type came struct {
	op  uint8
	err api.Errno
}

// walk does mutations by chance, and holds the scene against its model behind each; it counts what came.
func walk(t *testing.T, seed, last int, count map[came]int) {
	d := dice(seed)
	s, l := made(t)
	for i := range 300 {
		m := d.mutation(l, last)
		given := slices.Clone(m.Node.Pix)
		to, want := l.do(m)
		if err := s.Do(m); err != want {
			t.Fatalf("seed %d, %d: %+v: %v, not %v", seed, i, m, err, want)
		}
		if !slices.Equal(given, m.Node.Pix) {
			t.Fatalf("seed %d, %d: the pixels that were handed in changed", seed, i)
		}
		count[came{m.Op, want}]++
		l = to
		shows(t, s, l)
		follows(t, s)
		if d.below(40) == 0 {
			old := s
			s = s.Clone()
			old.Do(d.mutation(l, last))
			shows(t, s, l)
		}
	}
}

// TestAnyMutations is P15.2 to P15.4 of scenes of few nodes, and of as many as may be.
func TestAnyMutations(t *testing.T) {
	count := map[came]int{}
	for seed := range 90 {
		walk(t, seed, []int{6, 20, 400}[seed%3], count)
	}
	for _, c := range []came{
		{0, api.ErrArg}, {api.OpAdd, api.OK}, {api.OpAdd, api.ErrArg}, {api.OpAdd, api.ErrTwice}, {api.OpAdd, api.ErrNone}, {api.OpAdd, api.ErrFull}, {api.OpAdd, api.ErrDeep},
		{api.OpRemove, api.OK}, {api.OpRemove, api.ErrNone}, {api.OpRemove, api.ErrRoot}, {api.OpMove, api.OK}, {api.OpMove, api.ErrArg}, {api.OpMove, api.ErrNone}, {api.OpMove, api.ErrRoot},
		{api.OpSize, api.OK}, {api.OpSize, api.ErrArg}, {api.OpSize, api.ErrNone}, {api.OpSize, api.ErrRoot}, {api.OpSize, api.ErrState},
		{api.OpRaise, api.OK}, {api.OpRaise, api.ErrArg}, {api.OpRaise, api.ErrNone}, {api.OpRaise, api.ErrRoot}, {api.OpShow, api.OK}, {api.OpShow, api.ErrNone}, {api.OpShow, api.ErrRoot},
		{api.OpAlpha, api.OK}, {api.OpAlpha, api.ErrNone}, {api.OpAlpha, api.ErrRoot}, {api.OpPaint, api.OK}, {api.OpPaint, api.ErrNone}, {api.OpPaint, api.ErrRoot}, {api.OpPaint, api.ErrState},
		{api.OpParent, api.OK}, {api.OpParent, api.ErrNone}, {api.OpParent, api.ErrRoot}, {api.OpParent, api.ErrState}, {api.OpParent, api.ErrDeep},
	} {
		if count[c] == 0 {
			t.Errorf("the operation %d was never answered %v", c.op, c.err)
		}
	}
}
