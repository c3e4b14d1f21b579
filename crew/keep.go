package crew

import (
	"stevedore/api"
	"stevedore/check"
	"stevedore/record"
	"stevedore/stanza"
	"stevedore/status"
)

// The files of what packages say, by their names; and one that is on its way to be one of them, and is never read: no package may be called so.
const (
	saysHead  = "s/"
	freshFile = "s/+fresh"
)

// stand keeps how a package stands. Who waits, and tasks, are left only where a state may have them.
func (c *Crew) stand(name string, s status.Status) error {
	if s.State == api.None {
		return c.book.Set(name, "")
	}
	if s.State != api.Awaited {
		s.Waits = nil
		if s.State != api.Pending {
			s.Tasks = nil
		}
	}
	text, err := status.Print(s)
	if err != nil {
		return err
	}
	return c.book.Set(name, text)
}

// comes lets an event come to a package.
func (c *Crew) comes(name string, event int) error {
	s := c.Status(name)
	next, err := status.Next(s.State, event)
	if err != nil {
		return err
	}
	s.State = next
	return c.stand(name, s)
}

// say keeps what a package says, wholly or not at all: it is made safe under another name first, as a move alone is done at once.
func (c *Crew) say(name, text string) error {
	if err := c.disk.Write(freshFile, text); err != nil {
		return err
	}
	if err := c.disk.Sync(freshFile); err != nil {
		return err
	}
	return c.disk.Move(freshFile, saysHead+name)
}

// says is what a package says: of one whose coming ended ahead of that, what is known by how it stands.
func (c *Crew) says(name string) api.Pack {
	// What is not there is read as an empty text, which is no stanza.
	text, _ := c.disk.Read(saysHead + name)
	if l, err := stanza.Parse(text); err == nil && len(l) == 1 {
		if p, err := record.Read(l[0]); err == nil {
			return p
		}
	}
	return api.Pack{Name: name, Version: c.Status(name).Version}
}

// known are all packages that are there, by their names.
func (c *Crew) known() (names []string, l []check.Known) {
	names = c.Names()
	for _, name := range names {
		l = append(l, check.Known{Status: c.Status(name), Pack: c.says(name)})
	}
	return names, l
}
