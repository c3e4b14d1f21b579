package shelf

import (
	"slices"

	"stevedore/api"
	"stevedore/archive"
)

// Choice is what is done with a setting: what was shipped last, what lies there, what is new (nil: nothing).
func Choice(old, now, next *string) int {
	switch {
	case next == nil:
		return Leaves
	case old == nil && now == nil:
		return Takes
	case same(now, next):
		return Leaves
	case old == nil:
		return Asks
	case same(old, next):
		return Leaves
	case same(old, now):
		return Takes
	}
	return Asks
}

// same says whether both are there, and are the same text.
func same(a, b *string) bool { return a != nil && b != nil && *a == *b }

// Put lets a package's files lie there: in the place of others', of those that it may take; those that it had, and has no more, go (but settings). Settings come as Choice says; who asks takes the new one, if the next answer says so (none: no). ErrArg: the package may not be; ErrTwice: a file is another one's: an At at it; the disk's errors: it may be done in part.
func (s *Shelf) Put(p api.Pack, takes func(name string) bool, answers []bool) error {
	if !archive.Right(p) {
		return api.ErrArg
	}
	if i, _ := s.Clash(p, takes); i >= 0 {
		return &api.At{Err: api.ErrTwice, Place: i}
	}
	comes := s.comes(p, answers)
	// The last one is laid first: wherever this ends, all ahead of one that is left are left, too, so that they ask again, and each is given the same answer, when this is done again.
	for i, f := range slices.Backward(p.Files) {
		if err := s.lay(p, f, comes[i]); err != nil {
			return err
		}
	}
	return s.clear(p)
}

// Drop takes a package's files away: but settings; all: settings, too. The disk's errors: it may be done in part.
func (s *Shelf) Drop(name string, all bool) error {
	for _, path := range s.Paths(name) {
		if !all && s.setting(path) {
			continue
		}
		if err := s.forget(path); err != nil {
			return err
		}
	}
	return nil
}

// comes says of each file of a package whether it is to lie there.
func (s *Shelf) comes(p api.Pack, answers []bool) []bool {
	next := func() bool {
		if len(answers) == 0 {
			return false
		}
		yes := answers[0]
		answers = answers[1:]
		return yes
	}
	comes := make([]bool, len(p.Files))
	for i, f := range p.Files {
		choice := Takes
		if slices.Contains(p.Settings, f.Path) {
			choice = Choice(s.text(shippedHead+f.Path), s.text(dataHead+f.Path), &f.Data)
		}
		comes[i] = choice == Takes || choice == Asks && next()
	}
	return comes
}

// lay lets a path be a package's, and (if it comes) the file lie there.
func (s *Shelf) lay(p api.Pack, f api.File, comes bool) error {
	// Whose it is stands first: wherever this ends, what lies there is somebody's, who can drop it.
	if s.Owner(f.Path) != p.Name {
		if err := s.keep(ownerHead+f.Path, p.Name); err != nil {
			return err
		}
	}
	if comes {
		if err := s.keep(dataHead+f.Path, f.Data); err != nil {
			return err
		}
	}
	// What was shipped stands last: were it there ahead of the file, Choice would leave what lies there, when this is done again.
	if slices.Contains(p.Settings, f.Path) {
		return s.keep(shippedHead+f.Path, f.Data)
	}
	return s.lose(shippedHead + f.Path)
}

// clear takes away what a package had, and has no file of any more: but settings.
func (s *Shelf) clear(p api.Pack) error {
	for _, path := range s.Paths(p.Name) {
		here := func(f api.File) bool { return f.Path == path }
		if s.setting(path) || slices.ContainsFunc(p.Files, here) {
			continue
		}
		if err := s.forget(path); err != nil {
			return err
		}
	}
	return nil
}

// forget lets nothing lie at a path, and it be nobody's.
func (s *Shelf) forget(path string) error {
	// What was shipped goes first: were it there without the file, a package that comes again would leave it so, as if somebody had taken the file away. Whose it is goes last, so that this can be done again.
	for _, head := range []string{shippedHead, dataHead, ownerHead} {
		if err := s.lose(head + path); err != nil {
			return err
		}
	}
	return nil
}
