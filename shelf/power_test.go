package shelf_test

import (
	"fmt"
	"maps"
	"slices"
	"strings"
	"testing"

	"stevedore/api"
	"stevedore/disk"
	"stevedore/shelf"
)

// story is what was done, what is done while the power goes off, and what is done behind it: so that what was SHIPPED shows.
type story struct {
	what   string
	before []deed
	do     deed
	after  []deed
}

// later are packages that come behind all: with what was SHIPPED once, and with what is new.
func later(files ...string) []deed {
	var old, fresh []string
	for _, path := range files {
		old, fresh = append(old, path+"!1"), append(fresh, path+"!9")
	}
	return []deed{puts(pack("aa", old...)).from("bb", "cc"), puts(pack("aa", fresh...)).from("bb", "cc")}
}

func stories() []story {
	settings := []deed{
		puts(pack("aa", "etc/a!1", "bin/x=1", "etc/b!1", "etc/c!1", "etc/d!1")),
		edits("etc/a", "my a"), edits("etc/b", "my b"), edits("etc/d", "my d"), edits("bin/x", "my x"),
	}
	next := pack("aa", "etc/a!22", "etc/b!22", "bin/y=22", "etc/c!22", "etc/d!22")
	after := later("etc/a", "etc/b", "etc/c", "etc/d")
	var l []story
	for i := range 8 {
		answers := []bool{i&1 > 0, i&2 > 0, i&4 > 0}
		l = append(l, story{fmt.Sprint("answers ", answers), settings, puts(next, answers...), after})
	}
	others := []deed{
		puts(pack("bb", "bin/x=b", "etc/a!1", "etc/b!1", "doc=b")), puts(pack("cc", "etc/c!1", "lib/a=c")),
		edits("etc/a", "my a"), misses("etc/b"), edits("etc/c", "my c"),
	}
	taken := puts(pack("aa", "etc/c!2", "bin/x=2", "etc/b!2", "etc/a=2", "new=2", "etc/d!2"), false, true).from("bb", "cc")
	return append(l,
		story{"new", nil, puts(pack("aa", "etc/a!1", "bin/x=1", "etc/b!")), later("etc/a", "etc/b")},
		story{"the same again", settings, settings[0], after},
		story{"less", settings, puts(pack("aa", "etc/b=2")), after},
		story{"nothing", settings, puts(pack("aa")), after},
		story{"taken", others, taken, after},
		story{"gone, no", []deed{settings[0], misses("etc/a"), misses("etc/b"), misses("bin/x")}, puts(next, false, true), after},
		story{"were none", []deed{puts(pack("aa", "etc/a=1", "etc/b=1", "x=1"))}, puts(next, true, false), after},
		story{"drop", append(settings, puts(pack("cc", "lib/a=c"))), drops("aa", false), after},
		story{"drop all", append(settings, misses("etc/c"), puts(pack("cc", "lib/a=c"))), drops("aa", true), after},
		story{"drop what was taken", append(others, taken), drops("aa", true), after},
	)
}

// Promise 10.3: wherever the power goes off, and goes off again, and whatever Start keeps: done again, it is as if it had been done once.
func TestPower(t *testing.T) {
	for _, x := range stories() {
		ended := false
		for first := 0; !ended; first++ {
			for _, keeps := range []int{0, 1, 2, 1000} {
				for _, second := range []int{0, 1, 2, 4, 7, 11} {
					what := fmt.Sprintf("%s: cut %d, keeps %d, cut %d", x.what, first, keeps, second)
					ended = again(t, what, x, keeps, first, second, second/2)
					if t.Failed() {
						return
					}
				}
			}
		}
	}
}

// again lets the power go off behind so many changes, each time that it is done; does it at last with all the power; and says whether the first one ended well.
func again(t *testing.T, what string, x story, keeps int, cuts ...int) bool {
	t.Helper()
	s, d, m := lay(t, what, x.before...)
	before, after := maps.Clone(m), maps.Clone(m)
	tells(t, what, x.do.do(onModel(after)), nil)
	well := false
	for i, cut := range cuts {
		d.Cut(cut)
		err := x.do.do(onShelf(s))
		if err != nil {
			tells(t, what, err, api.ErrDevice)
		} else {
			stands(t, what+", done", s, after)
		}
		well = well || i == 0 && err == nil
		between(t, what, s, before, after)
		filesAre(t, d, nil)
		d.Start(keeps)
		s = over(t, d)
		if err == nil {
			stands(t, what+", done and started", s, after)
		}
		between(t, what+", started", s, before, after)
	}
	tells(t, what+", again", x.do.do(onShelf(s)), nil)
	stands(t, what+", again", s, after)
	for i, y := range x.after {
		step(t, fmt.Sprint(what, ", then ", i), s, after, y)
	}
	return well
}

// between tests that all of a shelf is as it was, or as it is to be: nothing lies there that nobody put there.
func between(t *testing.T, what string, s *shelf.Shelf, before, after model) {
	t.Helper()
	var settings []string
	for _, name := range s.Owners() {
		if !slices.Contains(before.owners(), name) && !slices.Contains(after.owners(), name) {
			t.Errorf("%s: %q is an owner", what, name)
		}
		settings = append(settings, s.Settings(name)...)
	}
	for _, path := range append(after.allPaths(), before.allPaths()...) {
		old, next := before[path], after[path]
		if owner := s.Owner(path); owner != old.owner && owner != next.owner {
			t.Errorf("%s: %q is %q's, neither %q's nor %q's", what, path, owner, old.owner, next.owner)
		}
		var now *string
		if data, err := s.Read(path); err == nil {
			now = &data
			if s.Owner(path) == "" {
				t.Errorf("%s: %q has %q, and is nobody's", what, path, data)
			}
		}
		if !equal(now, old.now) && !equal(now, next.now) {
			t.Errorf("%s: %q has %v, neither what it had nor what it is to have", what, path, now)
		}
		setting := slices.Contains(settings, path)
		if was, is := old.shipped != nil, next.shipped != nil; setting != was && setting != is {
			t.Errorf("%s: %q is a setting: %v, was %v, is to be %v", what, path, setting, was, is)
		}
	}
}

func equal(a, b *string) bool { return a == nil && b == nil || a != nil && b != nil && *a == *b }

// Promise 10.3: likewise, wherever the room ends.
func TestRoom(t *testing.T) {
	for _, x := range stories() {
		ended := false
		for room := 0; !ended; room++ {
			what := fmt.Sprintf("%s: room %d", x.what, room)
			s, d, m := lay(t, what, x.before...)
			before, after := maps.Clone(m), maps.Clone(m)
			tells(t, what, x.do.do(onModel(after)), nil)
			d.Room(room)
			err := x.do.do(onShelf(s))
			ended = err == nil
			if !ended {
				tells(t, what, err, api.ErrFull)
			}
			between(t, what, s, before, after)
			d.Start(room % 3)
			d.Room(-1)
			between(t, what, s, before, after)
			tells(t, what+", again", x.do.do(onShelf(s)), nil)
			for i, y := range x.after {
				step(t, fmt.Sprint(what, ", then ", i), s, after, y)
			}
			if t.Failed() {
				return
			}
		}
	}
}

// Promise 10.3: a disk without room, or with as many files as it may have, tells ErrFull; what lies there can go all the same.
func TestFull(t *testing.T) {
	s, d, m := run(t, "full", puts(pack("aa", "etc/a!1", "bin/x=2")), puts(pack("bb", "doc=3")))
	for i := range api.MaxFiles {
		d.Write(fmt.Sprint("f", i), "")
	}
	tells(t, "Put, many files", s.Put(pack("cc", "x="), none, nil), api.ErrFull)
	tells(t, "Edit, many files", s.Edit("bin/x", "", false), api.ErrFull)
	stands(t, "many files", s, m)
	d.Room(0)
	step(t, "Drop, no room", s, m, drops("aa", false))
	step(t, "Edit, no room", s, m, misses("etc/a"))
	step(t, "Drop all, no room", s, m, drops("aa", true))
	step(t, "Drop, no room", s, m, drops("bb", false))
}

// Promise 10.3: without power Drop tells it, and nothing goes.
func TestDropPower(t *testing.T) {
	s, d, m := run(t, "drop", puts(pack("aa", "etc/a!1", "bin/x=2")))
	d.Cut(0)
	tells(t, "Drop", s.Drop("aa", false), api.ErrDevice)
	tells(t, "Drop all", s.Drop("aa", true), api.ErrDevice)
	stands(t, "no power", s, m)
	tells(t, "Drop of nobody", s.Drop("bb", true), nil)
}

// Promise 10.3: what a Drop that was done in part left of a setting is nothing that somebody took away: it comes again with its package.
func TestDropInPart(t *testing.T) {
	ended := false
	for cut := 0; !ended; cut++ {
		what := fmt.Sprint("cut ", cut)
		p := pack("aa", "etc/a!1", "bin/x=2", "etc/b!3")
		s, d, m := lay(t, what, puts(p))
		d.Cut(cut)
		ended = s.Drop("aa", true) == nil
		d.Start(0)
		tells(t, what, s.Put(p, none, nil), nil)
		stands(t, what, s, m)
	}
}

// die tells numbers that look drawn, the same ones each time.
type die uint64

func (d *die) below(most int) int {
	*d = *d*6364136223846793005 + 1442695040888963407
	return int(uint64(*d>>33) % uint64(most))
}

// of is one of some.
func (d *die) of(l ...string) string { return l[d.below(len(l))] }

// some is a package, now and then one that may not be.
func (d *die) some() api.Pack {
	var l []string
	for range d.below(6) {
		path := d.of("bin/x", "bin/y", "etc/a", "etc/b", "etc/c", "lib/a", "lib/a/b", "doc", "etc")
		beside := func(f string) bool {
			f = f[:strings.IndexAny(f, "=!")]
			return f == path || above(f, path) || above(path, f)
		}
		if d.below(20) == 0 || path != "etc" && !slices.ContainsFunc(l, beside) {
			l = append(l, path+d.of("=", "!", "!")+d.of("1", "2", "", "long", "mine"))
		}
	}
	return pack(d.of("aa", "bb", "cc", "dd"), l...)
}

// deed is something that may be done.
func (d *die) deed() deed {
	switch k := d.below(10); {
	case k < 5:
		return puts(d.some(), d.below(2) == 0, d.below(2) == 0, d.below(2) == 0).from(d.of("aa", "bb", "cc", "dd"), d.of("aa", "bb"))
	case k < 6:
		return drops(d.of("aa", "bb", "cc", "dd"), d.below(2) == 0)
	case k < 7:
		return misses(d.of("etc/a", "etc/b", "bin/x"))
	}
	return edits(d.of("etc/a", "etc/b", "etc/c", "bin/x"), d.of("mine", "1", "2"))
}

// Promises 10.1 to 10.3: whatever is done, and whenever the power goes off or the room ends, all is as the document's words say, as soon as what failed is done again.
func TestModel(t *testing.T) {
	r := die(10)
	for range 800 {
		d, m, what := &disk.Disk{}, model{}, ""
		s := over(t, d)
		for range 25 {
			x := r.deed()
			what += fmt.Sprintf("%+v; ", x)
			after := maps.Clone(m)
			refused, done := x.do(onModel(after)) != nil, false
			for !refused && !done && r.below(3) == 0 {
				done = r.fails(t, what, s, d, x)
				between(t, what, s, m, after)
				d.Room(-1)
				d.Start(r.below(5) - 1)
				s = over(t, d)
				between(t, what, s, m, after)
			}
			if done {
				stands(t, what, s, after)
				m = after
			} else {
				step(t, what, s, m, x)
			}
			if t.Failed() {
				return
			}
		}
	}
}

// fails does something while the power may go off, or the room end; true: neither did.
func (d *die) fails(t *testing.T, what string, s *shelf.Shelf, on *disk.Disk, x deed) bool {
	t.Helper()
	on.Cut(d.below(40))
	on.Room(d.below(400))
	err := x.do(onShelf(s))
	if err != nil && err != api.ErrDevice && err != api.ErrFull {
		t.Errorf("%s: %v is none of the disk's errors", what, err)
	}
	return err == nil
}
