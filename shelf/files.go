package shelf

import (
	"strings"

	"stevedore/api"
)

// The files: of a path up to three, so that one goes without room for another one; and one that is on its way to be one of them, and is never read.
const (
	ownerHead   = "o/" // whose it is
	dataHead    = "d/" // what lies there
	shippedHead = "c/" // what was shipped there last
	freshFile   = "n/fresh"
)

// keep lets a file be, wholly or not at all. It is made safe under another name first: a move alone is done at once, so that the power takes no part of it.
func (s *Shelf) keep(file, text string) error {
	if err := s.disk.Write(freshFile, text); err != nil {
		return err
	}
	if err := s.disk.Sync(freshFile); err != nil {
		return err
	}
	return s.disk.Move(freshFile, file)
}

// lose takes a file away, if it is there.
func (s *Shelf) lose(file string) error {
	if err := s.disk.Remove(file); err != api.ErrMissing {
		return err
	}
	return nil
}

// text is a file; nil: it is not there.
func (s *Shelf) text(file string) *string {
	text, err := s.disk.Read(file)
	if err != nil {
		return nil
	}
	return &text
}

// owned are all paths, in order, by whose they are.
func (s *Shelf) owned() map[string][]string {
	owned := map[string][]string{}
	for _, file := range s.disk.List() {
		if path, ok := strings.CutPrefix(file, ownerHead); ok {
			name := s.Owner(path)
			owned[name] = append(owned[name], path)
		}
	}
	return owned
}
