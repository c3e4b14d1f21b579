package shelf

import (
	"maps"
	"slices"
	"strings"

	"stevedore/api"
)

// Clash is the first file of a package (from 0 on) that lies where another one's does, or beneath, or above, and whose; -1: none. What takes says of a package's name: its files may be taken (that helps nothing where one lies beneath another one: both would be there).
func (s *Shelf) Clash(p api.Pack, takes func(name string) bool) (int, string) {
	owned := s.owned()
	delete(owned, p.Name)
	owners := slices.Sorted(maps.Keys(owned))
	for i, f := range p.Files {
		for _, name := range owners {
			beside := func(path string) bool {
				if path == f.Path {
					return !may(takes, name)
				}
				return beneath(path, f.Path) || beneath(f.Path, path)
			}
			if slices.ContainsFunc(owned[name], beside) {
				return i, name
			}
		}
	}
	return -1, ""
}

// may says whether a package's files may be taken. They may not, where nothing says so: takes is nil, or panics.
func may(takes func(name string) bool, name string) (yes bool) {
	defer func() { recover() }()
	return takes != nil && takes(name)
}

// beneath says whether a path lies beneath another one.
func beneath(path, above string) bool { return strings.HasPrefix(path, above+"/") }
