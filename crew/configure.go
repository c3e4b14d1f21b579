package crew

import (
	"slices"
	"strings"

	"stevedore/api"
	"stevedore/check"
	"stevedore/status"
)

// So many may be called by one, and so many tasks may one have: a status has room for no more.
const (
	maxCalled = 4
	maxTasks  = 2
)

// Configure lets a package do what it is there for (with: others that are about to, too). ErrDevice: a write failed ahead; ErrMissing: it is not there; check.Configure's errors; ErrFalse: its script did not do well; the disk's errors.
func (c *Crew) Configure(name string, with []string) error {
	if c.Down() {
		return api.ErrDevice
	}
	if !c.there(name) {
		return api.ErrMissing
	}
	names, l := c.known()
	about := make([]int, len(with))
	for i, other := range with {
		// Of one that is not there it is -1: the number of none.
		about[i] = slices.Index(names, other)
	}
	if err := check.Configure(l, slices.Index(names, name), about); err != nil {
		return err
	}
	return c.start(name, l)
}

// ConfigureAll lets all that are about to do what they are there for, in line (each with all of them); those whose script did not do well, or which miss something, stay: how many did.
func (c *Crew) ConfigureAll() (int, error) {
	if c.Down() {
		return 0, api.ErrDevice
	}
	names, l := c.known()
	line := check.Line(l)
	done := 0
	for _, i := range line {
		// Who may not changes nothing, so that what is known is not read anew for it.
		if check.Configure(l, i, line) != nil {
			continue
		}
		switch err := c.start(names[i], l); {
		case err == nil:
			done++
		case c.Down():
			return 0, err
		}
		_, l = c.known()
	}
	return done, nil
}

// start lets a package that may do what it is there for, and calls others, of those that are known.
func (c *Crew) start(name string, l []check.Known) error {
	if err := c.comes(name, status.Starts); err != nil {
		return err
	}
	if !c.script(name, After) {
		return api.ErrFalse
	}
	called, err := c.callOthers(name, l)
	if err != nil {
		return err
	}
	return c.works(name, called)
}

// callOthers lets others that listen for a package's paths have something to do, and tells their names. It is done ahead of its working: wherever it ends, nobody waits for one that was not called, and done again, it calls the same ones.
func (c *Crew) callOthers(name string, l []check.Known) ([]string, error) {
	paths := c.shelf.Paths(name)
	var called []string
	for _, k := range l {
		if len(called) == maxCalled {
			break
		}
		tasks := heard(k.Pack, paths)
		if len(tasks) == 0 || k.Pack.Name == name || !status.May(k.Status.State, status.Called) {
			continue
		}
		if err := c.charge(k.Pack.Name, tasks); err != nil {
			return nil, err
		}
		called = append(called, k.Pack.Name)
	}
	return called, nil
}

// heard is, of each of the paths that a package listens for, what it listens for there: the path, or one above it. Each path is looked at by itself: what is first in Listens for one does not count for another.
func heard(p api.Pack, paths []string) []string {
	var l []string
	for _, path := range paths {
		hears := func(s string) bool { return path == s || strings.HasPrefix(path, s+"/") }
		if i := slices.IndexFunc(p.Listens, hears); i >= 0 {
			l = append(l, p.Listens[i])
		}
	}
	return l
}

// charge lets a package have tasks, beside those that it has: all of them at once, so that the power leaves none behind.
func (c *Crew) charge(name string, more []string) error {
	s := c.Status(name)
	next, err := status.Next(s.State, status.Called)
	if err != nil {
		return err
	}
	tasks := slices.Concat(s.Tasks, more)
	slices.Sort(tasks)
	tasks = slices.Compact(tasks)
	s.State, s.Tasks = next, tasks[:min(len(tasks), maxTasks)]
	return c.stand(name, s)
}

// works lets a package work, or wait for those that it called.
func (c *Crew) works(name string, called []string) error {
	s := c.Status(name)
	next, err := status.Next(s.State, status.Works)
	if err != nil {
		return err
	}
	s.State = next
	if len(called) > 0 {
		s.State, s.Waits = api.Awaited, called
	}
	return c.stand(name, s)
}
