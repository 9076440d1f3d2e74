package scene

import "vignette/api"

func (s *Scene) has(id int) bool {
	_, is := s.nodes[id]
	return is
}

// isGroup says whether there is a Group of a number.
func (s *Scene) isGroup(id int) bool { return s.nodes[id].Kind == api.Group }

// depth is how many steps from parent to parent lead from a node that there is to the root.
func (s *Scene) depth(id int) int {
	steps := 0
	for ; id != root; id = s.nodes[id].Parent {
		steps++
	}
	return steps
}

// height is how much deeper the deepest node within one is.
func (s *Scene) height(id int) int {
	most := 0
	for _, kid := range s.Kids(id) {
		most = max(most, 1+s.height(kid))
	}
	return most
}

// isIn says whether a node that there is, is another one, or within it.
func (s *Scene) isIn(id, other int) bool {
	for id != other && id != root {
		id = s.nodes[id].Parent
	}
	return id == other
}

// drop takes a node away, and all that are within. It is there till these were found, as they are found by way of it.
func (s *Scene) drop(id int) {
	defer func() { delete(s.nodes, id) }()
	for _, kid := range s.Kids(id) {
		s.drop(kid)
	}
}
