package crew

import (
	"slices"

	"stevedore/api"
	"stevedore/status"
)

// Help lets a package do what it has to do for others. ErrDevice: a write failed ahead; ErrMissing: it is not there; ErrState: it has nothing to do, or waits itself; ErrFalse: its script did not do well: it must be configured anew; the disk's errors.
func (c *Crew) Help(name string) error {
	if c.Down() {
		return api.ErrDevice
	}
	if !c.there(name) {
		return api.ErrMissing
	}
	if !status.May(c.Status(name).State, status.Helped) {
		return api.ErrState
	}
	if !c.script(name, Task) {
		if err := c.comes(name, status.Fails); err != nil {
			return err
		}
		return api.ErrFalse
	}
	// They are let go first: were it Helped ahead of them, it could not be done again, and they would wait for nothing.
	if err := c.release(name); err != nil {
		return err
	}
	return c.comes(name, status.Helped)
}

// release lets all that wait for a package do so no more.
func (c *Crew) release(name string) error {
	for _, other := range c.Names() {
		s := c.Status(other)
		i := slices.Index(s.Waits, name)
		if i < 0 {
			continue
		}
		s.Waits = slices.Delete(s.Waits, i, i+1)
		if len(s.Waits) == 0 {
			s.State = api.Installed
			if len(s.Tasks) > 0 {
				s.State = api.Pending
			}
		}
		if err := c.stand(other, s); err != nil {
			return err
		}
	}
	return nil
}
