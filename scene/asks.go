package scene

import "vignette/api"

// ask is what is asked ahead of a change: an error refuses it.
type ask func() api.Errno

// first is the first error of what is asked. Nothing is asked behind it, as that may lean on what held ahead.
func first(asks ...ask) api.Errno {
	for _, a := range asks {
		if err := a(); err != api.OK {
			return err
		}
	}
	return api.OK
}

// need asks for what has to hold, or else is an error.
func need(err api.Errno, holds func() bool) ask {
	return func() api.Errno {
		if holds() {
			return api.OK
		}
		return err
	}
}

// inner asks for a node that there is, and that is not the root.
func (s *Scene) inner(id int) ask {
	return func() api.Errno {
		return first(
			need(api.ErrNone, func() bool { return s.has(id) }),
			need(api.ErrRoot, func() bool { return id != root }),
		)
	}
}
