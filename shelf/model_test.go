package shelf_test

import (
	"errors"
	"maps"
	"slices"
	"strings"
	"testing"

	"stevedore/api"
	"stevedore/archive"
	"stevedore/disk"
	"stevedore/shelf"
)

// tells tests an error: it is just that one, without a place.
func tells(t *testing.T, what string, got, want error) {
	t.Helper()
	if got != want {
		t.Errorf("%s: %v, want %v", what, got, want)
	}
}

// tellsAt tests an error and its place.
func tellsAt(t *testing.T, what string, got error, want api.Errno, place int) {
	t.Helper()
	var at *api.At
	if api.Tell(got) != want || !errors.As(got, &at) || at.Place != place {
		t.Errorf("%s: %v, %v, want %v at %d", what, got, at, want, place)
	}
}

// over is a shelf; a test can't go on without one.
func over(t *testing.T, d *disk.Disk) *shelf.Shelf {
	t.Helper()
	s, err := shelf.Over(d)
	if s == nil || err != nil {
		t.Fatalf("Over: %v, %v", s, err)
	}
	return s
}

// pack is a package with files: each is a path, `=` or (of a setting) `!`, and data.
func pack(name string, files ...string) api.Pack {
	p := api.Pack{Name: name, Version: api.Version{Upstream: "1"}}
	for _, f := range files {
		i := strings.IndexAny(f, "=!")
		p.Files = append(p.Files, api.File{Path: f[:i], Data: f[i+1:]})
		if f[i] == '!' {
			p.Settings = append(p.Settings, f[:i])
		}
	}
	return p
}

// none says that nobody's files may be taken; of says of whom they may.
func none(string) bool { return false }

func of(names ...string) func(string) bool {
	return func(name string) bool { return slices.Contains(names, name) }
}

// place is what the document says of a path: whose it is, what lies there, what was shipped.
type place struct {
	owner        string
	now, shipped *string
}

// model is what the document says of a shelf, by paths.
type model map[string]place

// owners, paths, settings: as Owners, Paths, Settings.
func (m model) owners() []string {
	var l []string
	for _, x := range m {
		l = append(l, x.owner)
	}
	slices.Sort(l)
	return slices.Compact(l)
}

func (m model) paths(name string) []string {
	var l []string
	for _, path := range slices.Sorted(maps.Keys(m)) {
		if m[path].owner == name {
			l = append(l, path)
		}
	}
	return l
}

func (m model) settings(name string) []string {
	var l []string
	for _, path := range m.paths(name) {
		if m[path].shipped != nil {
			l = append(l, path)
		}
	}
	return l
}

// above says whether a path is one of those that another one lies beneath.
func above(path, other string) bool {
	for i := range len(other) {
		if other[i] == '/' && other[:i] == path {
			return true
		}
	}
	return false
}

func (m model) clash(p api.Pack, takes func(string) bool) (int, string) {
	for i, f := range p.Files {
		for _, name := range m.owners() {
			for _, path := range m.paths(name) {
				if name != p.Name && (path == f.Path && !takes(name) || above(path, f.Path) || above(f.Path, path)) {
					return i, name
				}
			}
		}
	}
	return -1, ""
}

// choice is what the document says, in its words' order.
func choice(old, now, next *string) int {
	if next == nil {
		return shelf.Leaves
	}
	if old == nil && now == nil {
		return shelf.Takes
	}
	if now != nil && *now == *next {
		return shelf.Leaves
	}
	if old == nil {
		return shelf.Asks
	}
	if *old == *next {
		return shelf.Leaves
	}
	if now != nil && *now == *old {
		return shelf.Takes
	}
	return shelf.Asks
}

func (m model) put(p api.Pack, takes func(string) bool, answers []bool) error {
	if !archive.Right(p) {
		return api.ErrArg
	}
	if i, _ := m.clash(p, takes); i >= 0 {
		return &api.At{Err: api.ErrTwice, Place: i}
	}
	had := m.paths(p.Name)
	asked := 0
	for _, f := range p.Files {
		x := m[f.Path]
		if !slices.Contains(p.Settings, f.Path) {
			m[f.Path] = place{owner: p.Name, now: &f.Data}
			continue
		}
		switch choice(x.shipped, x.now, &f.Data) {
		case shelf.Takes:
			x.now = &f.Data
		case shelf.Asks:
			if asked < len(answers) && answers[asked] {
				x.now = &f.Data
			}
			asked++
		}
		m[f.Path] = place{owner: p.Name, now: x.now, shipped: &f.Data}
	}
	for _, path := range had {
		if !slices.ContainsFunc(p.Files, func(f api.File) bool { return f.Path == path }) && m[path].shipped == nil {
			delete(m, path)
		}
	}
	return nil
}

func (m model) drop(name string, all bool) error {
	for _, path := range m.paths(name) {
		if all || m[path].shipped == nil {
			delete(m, path)
		}
	}
	return nil
}

func (m model) edit(path, data string, missing bool) error {
	x, ok := m[path]
	if !ok || missing && x.now == nil {
		return api.ErrMissing
	}
	x.now = &data
	if missing {
		x.now = nil
	}
	m[path] = x
	return nil
}

// somePaths are those that the tests know.
func somePaths() []string {
	return []string{"bin/x", "bin/y", "etc", "etc/a", "etc/b", "etc/c", "lib/a", "lib/a/b", "lib/ab", "doc", "x", "", "/", "etc/", "nobody"}
}

// stands tests all that a shelf tells.
func stands(t *testing.T, what string, s *shelf.Shelf, m model) {
	t.Helper()
	lists(t, what+": Owners()", s.Owners(), m.owners())
	for _, name := range append(m.owners(), "aa", "nobody", "", "o/") {
		lists(t, what+": Paths("+name+")", s.Paths(name), m.paths(name))
		lists(t, what+": Settings("+name+")", s.Settings(name), m.settings(name))
	}
	for _, path := range append(m.allPaths(), somePaths()...) {
		if got := s.Owner(path); got != m[path].owner {
			t.Errorf("%s: Owner(%q) = %q, want %q", what, path, got, m[path].owner)
		}
		got, err := s.Read(path)
		if now := m[path].now; now == nil {
			if got != "" || err != api.ErrMissing {
				t.Errorf("%s: Read(%q) = %.100q, %v, want nothing", what, path, got, err)
			}
		} else if got != *now || err != nil {
			t.Errorf("%s: Read(%q) = %.100q, %v, want %.100q", what, path, got, err, *now)
		}
	}
}

func (m model) allPaths() []string { return slices.Sorted(maps.Keys(m)) }

// lists tests a list.
func lists(t *testing.T, what string, got, want []string) {
	t.Helper()
	if !slices.Equal(got, want) {
		t.Errorf("%s = %q, want %q", what, got, want)
	}
}

// deed is something that is done with a shelf, or with what the document says of one.
type deed struct {
	put     *api.Pack
	takes   []string
	answers []bool

	drop string
	all  bool

	edit, data string
	missing    bool
}

func puts(p api.Pack, answers ...bool) deed { return deed{put: &p, answers: answers} }
func drops(name string, all bool) deed      { return deed{drop: name, all: all} }
func edits(path, data string) deed          { return deed{edit: path, data: data} }
func misses(path string) deed               { return deed{edit: path, missing: true} }

// from lets a Put take from some.
func (x deed) from(names ...string) deed {
	x.takes = names
	return x
}

// on is what can be done with a shelf, as well as with a model, so that a deed is told once.
type on struct {
	put  func(api.Pack, func(string) bool, []bool) error
	drop func(string, bool) error
	edit func(string, string, bool) error
}

func onShelf(s *shelf.Shelf) on { return on{s.Put, s.Drop, s.Edit} }
func onModel(m model) on        { return on{m.put, m.drop, m.edit} }

func (x deed) do(o on) error {
	switch {
	case x.put != nil:
		return o.put(*x.put, of(x.takes...), x.answers)
	case x.edit != "":
		return o.edit(x.edit, x.data, x.missing)
	}
	return o.drop(x.drop, x.all)
}

// run does some, with a new shelf and a model, and tests that both tell the same.
func run(t *testing.T, what string, l ...deed) (*shelf.Shelf, *disk.Disk, model) {
	t.Helper()
	d, m := &disk.Disk{}, model{}
	s := over(t, d)
	for _, x := range l {
		step(t, what, s, m, x)
	}
	return s, d, m
}

// lay does some, of which other tests tell whether they are done well.
func lay(t *testing.T, what string, l ...deed) (*shelf.Shelf, *disk.Disk, model) {
	t.Helper()
	d, m := &disk.Disk{}, model{}
	s := over(t, d)
	for _, x := range l {
		tells(t, what, x.do(onShelf(s)), nil)
		tells(t, what, x.do(onModel(m)), nil)
	}
	return s, d, m
}

// step does one with both.
func step(t *testing.T, what string, s *shelf.Shelf, m model, x deed) {
	t.Helper()
	got, want := x.do(onShelf(s)), x.do(onModel(m))
	var at *api.At
	if errors.As(want, &at) {
		tellsAt(t, what, got, at.Err, at.Place)
	} else {
		tells(t, what, got, want)
	}
	stands(t, what, s, m)
}
