package scene

import "vignette/api"

// operations are what each Op does with the node that is told; what is refused changes nothing.
func operations() map[uint8]func(s *Scene, told api.Node) api.Errno {
	return map[uint8]func(s *Scene, told api.Node) api.Errno{
		api.OpAdd:    (*Scene).add,
		api.OpRemove: (*Scene).remove,
		api.OpMove:   (*Scene).move,
		api.OpSize:   (*Scene).resize,
		api.OpRaise:  (*Scene).raise,
		api.OpShow:   (*Scene).show,
		api.OpAlpha:  (*Scene).fade,
		api.OpPaint:  (*Scene).paint,
		api.OpParent: (*Scene).hang,
	}
}

func (s *Scene) add(told api.Node) api.Errno {
	err := first(
		need(api.ErrArg, func() bool { return mayBe(told) }),
		need(api.ErrTwice, func() bool { return !s.has(told.Id) }),
		need(api.ErrNone, func() bool { return s.isGroup(told.Parent) }),
		need(api.ErrFull, func() bool { return len(s.nodes) < api.MaxNodes }),
		need(api.ErrDeep, func() bool { return s.depth(told.Parent) < api.MaxDepth }),
	)
	if err == api.OK {
		told.Color, told.Pix = low(told.Color), lowOf(told.Pix)
		s.nodes[told.Id] = told
	}
	return err
}

func (s *Scene) remove(told api.Node) api.Errno {
	err := first(s.inner(told.Id))
	if err == api.OK {
		s.drop(told.Id)
	}
	return err
}

func (s *Scene) move(told api.Node) api.Errno {
	asks := []ask{
		need(api.ErrArg, func() bool { return arePlaces(told.X, told.Y) }),
		s.inner(told.Id),
	}
	return s.turn(told.Id, asks, func(n *api.Node) { n.X, n.Y = told.X, told.Y })
}

func (s *Scene) resize(told api.Node) api.Errno {
	asks := []ask{
		need(api.ErrArg, func() bool { return areSides(told.W, told.H) }),
		s.inner(told.Id),
		need(api.ErrState, func() bool { return s.nodes[told.Id].Kind != api.Bitmap }),
	}
	return s.turn(told.Id, asks, func(n *api.Node) { n.W, n.H = told.W, told.H })
}

func (s *Scene) raise(told api.Node) api.Errno {
	asks := []ask{
		need(api.ErrArg, func() bool { return arePlaces(told.Z) }),
		s.inner(told.Id),
	}
	return s.turn(told.Id, asks, func(n *api.Node) { n.Z = told.Z })
}

func (s *Scene) show(told api.Node) api.Errno {
	return s.turn(told.Id, []ask{s.inner(told.Id)}, func(n *api.Node) { n.Hidden = told.Hidden })
}

func (s *Scene) fade(told api.Node) api.Errno {
	return s.turn(told.Id, []ask{s.inner(told.Id)}, func(n *api.Node) { n.Alpha = told.Alpha })
}

func (s *Scene) paint(told api.Node) api.Errno {
	asks := []ask{
		s.inner(told.Id),
		need(api.ErrState, func() bool { return s.nodes[told.Id].Kind != api.Group }),
		need(api.ErrState, func() bool {
			n := s.nodes[told.Id]
			return n.Kind != api.Bitmap || len(told.Pix) == pixels(n)
		}),
	}
	return s.turn(told.Id, asks, func(n *api.Node) {
		if n.Kind == api.Solid {
			n.Color = low(told.Color)
		} else {
			n.Pix = lowOf(told.Pix)
		}
	})
}

func (s *Scene) hang(told api.Node) api.Errno {
	asks := []ask{
		s.inner(told.Id),
		need(api.ErrNone, func() bool { return s.isGroup(told.Parent) }),
		need(api.ErrState, func() bool { return !s.isIn(told.Parent, told.Id) }),
		need(api.ErrDeep, func() bool { return s.depth(told.Parent)+1+s.height(told.Id) <= api.MaxDepth }),
	}
	return s.turn(told.Id, asks, func(n *api.Node) { n.Parent = told.Parent })
}

// turn changes a node that there is, if nothing that is asked ahead refuses it.
func (s *Scene) turn(id int, asks []ask, change func(n *api.Node)) api.Errno {
	err := first(asks...)
	if err == api.OK {
		n := s.nodes[id]
		change(&n)
		s.nodes[id] = n
	}
	return err
}
