package client

import (
	"quiescent/api"
	"quiescent/threads"
)

// course of a thread: what there is ahead of an op.
type course struct {
	sections int  // that are open
	retired  bool // something is
	waited   bool // it is behind a wait
}

// follow each thread, up to the first op that is wrong; each one ahead of that is shown to see.
func follow(l [][]api.Op, see func(ahead course, x api.Op)) error {
	return threads.Each(l, func(ops []api.Op) error { return followOne(ops, see) })
}

func followOne(ops []api.Op, see func(ahead course, x api.Op)) error {
	var c course
	for _, x := range ops {
		if err := threads.Shape(x, "put", "enter", "leave", "rest", "wait", "read", "drop", "later", "flush"); err != nil {
			return err
		}
		if err := c.check(x.Kind); err != nil {
			return err
		}
		see(c, x)
		c.pass(x.Kind)
	}
	if c.sections > 0 {
		return api.ErrHeld
	}
	return nil
}

// check that an op may come next.
func (c course) check(kind string) error {
	inside := c.sections > 0
	switch kind {
	case "leave", "read":
		if !inside {
			return api.ErrHeld
		}
	case "rest", "wait", "flush":
		if inside {
			return api.ErrHeld
		}
	case "put":
		if inside || c.retired {
			return api.ErrHeld
		}
	case "drop", "later":
		if !c.retired {
			return api.ErrNone
		}
	}
	return nil
}

// pass an op.
func (c *course) pass(kind string) {
	switch kind {
	case "enter":
		c.sections++
	case "leave":
		c.sections--
	case "wait", "flush":
		c.waited = true
	case "put":
		c.retired, c.waited = true, false
	case "drop", "later":
		c.retired = false
	}
}
