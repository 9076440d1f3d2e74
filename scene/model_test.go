package scene_test

import (
	"cmp"
	"reflect"
	"slices"
	"testing"

	"vignette/api"
	"vignette/scene"
)

// model is a scene as the document's words tell it: a list of its nodes, the root first, in the order in which they came.
type model []api.Node

func newModel(w, h int) model {
	return model{{Id: 0, Parent: -1, Kind: api.Group, W: w, H: h, Alpha: 255}}
}

// find is where a node stands, or -1.
func (l model) find(id int) int {
	return slices.IndexFunc(l, func(n api.Node) bool { return n.Id == id })
}

// group says whether there is a Group of a number.
func (l model) group(id int) bool {
	at := l.find(id)
	return at >= 0 && l[at].Kind == api.Group
}

// path are the numbers from a node that there is up to the root.
func (l model) path(id int) []int {
	var p []int
	for at := l.find(id); at >= 0; at = l.find(l[at].Parent) {
		p = append(p, l[at].Id)
	}
	return p
}

// deepest is the greatest depth of a node, and of those within.
func (l model) deepest(id int) int {
	most := 0
	for _, n := range l {
		if p := l.path(n.Id); slices.Contains(p, id) {
			most = max(most, len(p)-1)
		}
	}
	return most
}

// kids are the nodes in one.
func (l model) kids(id int) []int {
	var in []api.Node
	for _, n := range l {
		if n.Parent == id && l.find(id) >= 0 {
			in = append(in, n)
		}
	}
	slices.SortFunc(in, func(a, b api.Node) int { return cmp.Or(cmp.Compare(a.Z, b.Z), cmp.Compare(a.Id, b.Id)) })
	return idsOf(in)
}

func idsOf(l []api.Node) []int {
	var ids []int
	for _, n := range l {
		ids = append(ids, n.Id)
	}
	return ids
}

func place(n int) bool { return -1<<20 <= n && n <= 1<<20 }

func side(n int) bool { return 1 <= n && n <= 256 }

// fieldsMayBe are the document's words on a node's fields.
func fieldsMayBe(n api.Node) bool {
	if n.Id < 1 || n.Id > 1<<20 || !place(n.X) || !place(n.Y) || !place(n.Z) || !side(n.W) || !side(n.H) {
		return false
	}
	switch n.Kind {
	case api.Group:
		return len(n.Pix) == 0 && n.Color<<8 == 0
	case api.Solid:
		return len(n.Pix) == 0
	case api.Bitmap:
		return len(n.Pix) == n.W*n.H && n.Color<<8 == 0
	}
	return false
}

// refusal is the error that a mutation is refused by.
func (l model) refusal(m api.Mutation) api.Errno {
	n := m.Node
	if m.Op == 0 || m.Op > 9 {
		return api.ErrArg
	}
	if m.Op == api.OpAdd {
		return l.refusesAdd(n)
	}
	if m.Op == api.OpMove && !(place(n.X) && place(n.Y)) || m.Op == api.OpRaise && !place(n.Z) || m.Op == api.OpSize && !(side(n.W) && side(n.H)) {
		return api.ErrArg
	}
	at := l.find(n.Id)
	if at < 0 {
		return api.ErrNone
	}
	if n.Id == 0 {
		return api.ErrRoot
	}
	switch is := l[at]; m.Op {
	case api.OpSize:
		if is.Kind == api.Bitmap {
			return api.ErrState
		}
	case api.OpPaint:
		if is.Kind == api.Group || is.Kind == api.Bitmap && len(n.Pix) != is.W*is.H {
			return api.ErrState
		}
	case api.OpParent:
		return l.refusesParent(n)
	}
	return api.OK
}

func (l model) refusesAdd(n api.Node) api.Errno {
	switch {
	case !fieldsMayBe(n):
		return api.ErrArg
	case l.find(n.Id) >= 0:
		return api.ErrTwice
	case !l.group(n.Parent):
		return api.ErrNone
	case len(l) == 64:
		return api.ErrFull
	case len(l.path(n.Parent)) > 8:
		return api.ErrDeep
	}
	return api.OK
}

func (l model) refusesParent(n api.Node) api.Errno {
	if !l.group(n.Parent) {
		return api.ErrNone
	}
	to := l.path(n.Parent)
	if slices.Contains(to, n.Id) {
		return api.ErrState
	}
	if len(to)+l.deepest(n.Id)-(len(l.path(n.Id))-1) > 8 {
		return api.ErrDeep
	}
	return api.OK
}

// do is the model behind a mutation, and the error; the model itself stays.
func (l model) do(m api.Mutation) (model, api.Errno) {
	if err := l.refusal(m); err != api.OK {
		return l, err
	}
	to := slices.Clone(l)
	told := m.Node
	told.Color &= 1<<24 - 1
	told.Pix = nil
	for _, p := range m.Node.Pix {
		told.Pix = append(told.Pix, p%(1<<24))
	}
	if m.Op == api.OpAdd {
		return append(to, told), api.OK
	}
	n := &to[to.find(told.Id)]
	switch m.Op {
	case api.OpRemove:
		return slices.DeleteFunc(to, func(n api.Node) bool { return slices.Contains(l.path(n.Id), told.Id) }), api.OK
	case api.OpMove:
		n.X, n.Y = told.X, told.Y
	case api.OpSize:
		n.W, n.H = told.W, told.H
	case api.OpRaise:
		n.Z = told.Z
	case api.OpShow:
		n.Hidden = told.Hidden
	case api.OpAlpha:
		n.Alpha = told.Alpha
	case api.OpParent:
		n.Parent = told.Parent
	case api.OpPaint:
		if n.Kind == api.Solid {
			n.Color = told.Color
		} else {
			n.Pix = told.Pix
		}
	}
	return to, api.OK
}

func alike(a, b api.Node) bool {
	same := slices.Equal(a.Pix, b.Pix)
	a.Pix, b.Pix = nil, nil
	return same && reflect.DeepEqual(a, b)
}

// shows fails unless all that a scene answers is what the model says, whose first node is the root.
func shows(t *testing.T, s *scene.Scene, l model) {
	t.Helper()
	ids := idsOf(l)
	slices.Sort(ids)
	if got := s.Ids(); !slices.Equal(got, ids) {
		t.Fatalf("Ids %v, not %v", got, ids)
	}
	if w, h := s.Size(); w != l[0].W || h != l[0].H {
		t.Fatalf("Size %d, %d, not %d, %d", w, h, l[0].W, l[0].H)
	}
	for _, want := range l {
		if got, err := s.Node(want.Id); err != api.OK || !alike(got, want) {
			t.Fatalf("Node(%d): %+v, %v, not %+v", want.Id, got, err, want)
		}
		if got, kids := s.Kids(want.Id), l.kids(want.Id); !slices.Equal(got, kids) {
			t.Fatalf("Kids(%d): %v, not %v", want.Id, got, kids)
		}
	}
	for _, id := range anySize() {
		if l.find(id) >= 0 {
			continue
		}
		if got, err := s.Node(id); err != api.ErrNone || !alike(got, api.Node{}) {
			t.Fatalf("Node(%d): %+v, %v, but there is none", id, got, err)
		}
		if got := s.Kids(id); len(got) != 0 {
			t.Fatalf("Kids(%d): %v, but there is no such node", id, got)
		}
	}
}
