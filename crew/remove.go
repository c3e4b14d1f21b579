package crew

import (
	"slices"

	"stevedore/api"
	"stevedore/check"
	"stevedore/status"
)

// Remove lets a package's files go (all: and its settings, and all that is known of it). ErrDevice: a write failed ahead; ErrMissing: it is not there; ErrState: it is held; ErrOrder: others that work would miss it: an At at the least of them (of all names); ErrFalse: its script did not do well; the disk's errors: it is half there.
func (c *Crew) Remove(name string, all bool) error {
	if c.Down() {
		return api.ErrDevice
	}
	if !c.there(name) {
		return api.ErrMissing
	}
	s := c.Status(name)
	if s.Held {
		return api.ErrState
	}
	if status.May(s.State, status.Leaves) {
		if err := c.leave(name); err != nil {
			return err
		}
	}
	if err := c.shelf.Drop(name, all); err != nil {
		return err
	}
	return c.settle(name)
}

// leave lets a package be one whose files are about to go.
func (c *Crew) leave(name string) error {
	names, l := c.known()
	if needs := check.Needs(l, slices.Index(names, name)); len(needs) > 0 {
		return &api.At{Err: api.ErrOrder, Place: needs[0]}
	}
	if !c.script(name, Leave) {
		return api.ErrFalse
	}
	if err := c.comes(name, status.Leaves); err != nil {
		return err
	}
	return c.release(name)
}

// settle lets a package whose files are gone be its settings alone, or, without any, not be there.
func (c *Crew) settle(name string) error {
	if len(c.shelf.Settings(name)) == 0 {
		return c.clear(name)
	}
	if c.Status(name).State == api.Config {
		return nil
	}
	return c.comes(name, status.Gone)
}

// clear lets a package not be there. What it says goes first: were it left when the package is not there, nothing would take it away any more.
func (c *Crew) clear(name string) error {
	if err := c.disk.Remove(saysHead + name); err != nil && err != api.ErrMissing {
		return err
	}
	return c.comes(name, status.Cleared)
}
