package crew

import (
	"slices"
	"strings"

	"stevedore/api"
	"stevedore/archive"
	"stevedore/check"
	"stevedore/depend"
	"stevedore/status"
)

// Unpack lets a package's files come. ErrDevice: a write failed ahead; archive.Read's errors; ErrFull: there are MaxPacks; check.Unpack's errors; ErrTwice: a file is another one's: an At at it; ErrFalse: its script did not do well; the disk's errors: it is half there.
func (c *Crew) Unpack(s string, answers []bool) error {
	if c.Down() {
		return api.ErrDevice
	}
	p, err := archive.Read(s)
	if err != nil {
		return err
	}
	takes := c.takes(p)
	if err := c.mayCome(p, takes); err != nil {
		return err
	}
	if !c.script(p.Name, Before) {
		return api.ErrFalse
	}
	if err := c.opens(p); err != nil {
		return err
	}
	// As it is written, not as Print would write it: that may be longer than a stanza may be.
	head, _, _ := strings.Cut(s, "\n\n")
	if err := c.say(p.Name, head); err != nil {
		return err
	}
	if err := c.shelf.Put(p, takes, answers); err != nil {
		return err
	}
	return c.comes(p.Name, status.Stands)
}

// mayCome says whether a package's files may come: beside those that are there, and beside their files.
func (c *Crew) mayCome(p api.Pack, takes func(name string) bool) error {
	names, l := c.known()
	if !c.there(p.Name) && len(names) >= api.MaxPacks {
		return api.ErrFull
	}
	if err := check.Unpack(l, p); err != nil {
		return err
	}
	if i, _ := c.shelf.Clash(p, takes); i >= 0 {
		return &api.At{Err: api.ErrTwice, Place: i}
	}
	return nil
}

// takes tells from whom a package may take files: from those that are there, and that it replaces by their own name and version.
func (c *Crew) takes(p api.Pack) func(name string) bool {
	return func(name string) bool {
		own := depend.Offer{Name: name, Version: c.Status(name).Version}
		replaced := func(t api.Term) bool { return depend.Meets(own, t) }
		return c.there(name) && slices.ContainsFunc(p.Replaces, replaced)
	}
}

// opens lets a package stand as one whose files are about to come.
func (c *Crew) opens(p api.Pack) error {
	was := c.Status(p.Name)
	state, err := status.Next(was.State, status.Opens)
	if err != nil {
		return err
	}
	return c.stand(p.Name, status.Status{State: state, Version: p.Version, Held: was.Held})
}
