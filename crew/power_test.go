package crew_test

import (
	"fmt"
	"maps"
	"slices"
	"testing"

	"stevedore/api"
	"stevedore/archive"
	"stevedore/crew"
	"stevedore/disk"
)

// whose is the package that something is done with.
func (x deed) whose() string {
	if x.what != "unpack" {
		return x.name
	}
	p, err := archive.Read(x.text)
	if err != nil {
		panic(err)
	}
	return p.Name
}

// between tests that all is as it was, or as it is to be, but how the package stands that something is done with.
func between(t *testing.T, what string, c *crew.Crew, x deed, before, after look) {
	t.Helper()
	got := lookAt(c)
	// Its name and version alone is what one says that came no further, or has gone so far.
	bare := fmt.Sprint(api.Pack{Name: x.whose(), Version: c.Status(x.whose()).Version}, told(nil))
	for _, key := range slices.Sorted(maps.Keys(both(got, both(before, after)))) {
		if key == "audit" || key == "status "+x.whose() {
			continue
		}
		if key == "says "+x.whose() && got[key] == bare {
			continue
		}
		if got[key] != before[key] && got[key] != after[key] {
			t.Errorf("%s: %s: %q, was %q, is to be %q", what, key, got[key], before[key], after[key])
		}
	}
}

// story is what was done, and what is done while the power goes off.
type story struct {
	what   string
	before []deed
	do     deed
}

func unpacks(p api.Pack, answers ...bool) deed {
	return deed{what: "unpack", text: text(p), answers: answers}
}
func configures(name string, with ...string) deed {
	return deed{what: "configure", name: name, with: with}
}
func helps(name string) deed             { return deed{what: "help", name: name} }
func removes(name string, all bool) deed { return deed{what: "remove", name: name, yes: all} }
func edits(path, data string) deed       { return deed{what: "edit", name: path, text: data} }

// installs are both.
func installs(l ...api.Pack) []deed {
	var out []deed
	for _, p := range l {
		out = append(out, unpacks(p), configures(p.Name))
	}
	return out
}

func stories() []story {
	waits := installs(
		pack("b0", "listens bin", "setting etc/b=1", "file lib/b=1"), pack("b1", "listens doc bin"), pack("b2", "listens bin"),
		pack("aa", "file bin/x=1", "setting etc/a=1", "setting etc/c=1", "listens lib"), pack("cc", "file bin/y=1", "file lib/c=1"),
	)
	mine := append(slices.Clone(waits), edits("etc/a", "mine"), edits("etc/c", "mine"), edits("etc/b", "mine"))
	next := pack("aa=2", "depends b0", "setting etc/a=2", "file bin/x=2", "file bin/z=2", "setting etc/c=2", "setting etc/d=2")
	taker := pack("dd", "replaces b0, cc (<< 2)", "file lib/b=d", "setting etc/b=d", "file bin/y=d", "file doc=d")
	return []story{
		{"new", nil, unpacks(next)},
		{"new beside others", waits, unpacks(pack("ee", "file e=e", "setting etc/e=e"))},
		{"new, without files", waits, unpacks(pack("ee"))},
		{"next", mine, unpacks(next, true, false)},
		{"next, other answers", mine, unpacks(next, false, true)},
		{"takes", mine, unpacks(taker, true)},
		{"takes, no", mine, unpacks(taker)},
		{"of one that others wait for", mine, unpacks(pack("b1=2", "file doc=b"))},
		{"of settings alone", append(slices.Clone(mine), removes("aa", false)), unpacks(next, true)},
		{"configure", append(slices.Clone(waits), unpacks(next)), configures("aa")},
		{"configure, nobody is called", append(slices.Clone(waits), unpacks(pack("ee", "file e=e"))), configures("ee")},
		{"configure, several tasks", append(installs(pack("b0", "listens lib bin"), pack("b1", "listens bin/x doc bin")), unpacks(taker), unpacks(next)), configures("dd")},
		{"configure, all", append(slices.Clone(waits), unpacks(taker)), configures("dd", "aa")},
		{"configure with", append(slices.Clone(waits), unpacks(pack("ee", "depends ff", "file bin/e=e")), unpacks(pack("ff", "depends ee"))), configures("ee", "ff")},
		{"help", waits, helps("b0")},
		{"help, the last one", append(slices.Clone(waits), helps("b0"), helps("b2")), helps("b1")},
		{"remove", mine, removes("b0", false)},
		{"remove all", mine, removes("b0", true)},
		{"remove one that waits", mine, removes("aa", false)},
		{"remove all of one that waits", mine, removes("aa", true)},
		{"remove what was unpacked", append(slices.Clone(mine), unpacks(taker)), removes("dd", false)},
		{"remove one without settings", mine, removes("cc", false)},
		{"purge", append(slices.Clone(mine), removes("b0", false)), removes("b0", true)},
		{"remove again", append(slices.Clone(mine), removes("b0", false)), removes("b0", false)},
		{"hold", mine, deed{what: "hold", name: "aa", yes: true}},
	}
}

// scene is a disk on which a story's beginning was done, and what is seen of a crew before and after what is done then.
type scene struct {
	disk          *disk.Disk
	do            deed
	before, after look
}

// lay does what a story begins with.
func lay(t *testing.T, x story) scene {
	t.Helper()
	c, d := fresh(t)
	m := newModel()
	for _, y := range x.before {
		step(t, x.what, c, m, y)
	}
	before := m.look()
	_, err := x.do.onModel(m)
	tells(t, x.what, err, api.OK)
	return scene{d, x.do, before, m.look()}
}

// Promise 12.6: wherever the power goes off, and goes off again, and whatever Start keeps: done again, it is done.
func TestPower(t *testing.T) {
	for _, x := range stories() {
		s := lay(t, x)
		ended := false
		for first := 0; !ended; first++ {
			for _, keeps := range []int{0, 1, 1000} {
				for _, second := range []int{1, 6} {
					what := fmt.Sprintf("%s: cut %d, keeps %d, cut %d", x.what, first, keeps, second)
					ended = again(t, what, s, keeps, first, second)
					if t.Failed() {
						return
					}
				}
			}
		}
	}
}

// again lets the power go off behind so many changes, each time that it is done, until it is; does it at last with all the power; and says whether the first one ended well.
func again(t *testing.T, what string, s scene, keeps int, cuts ...int) bool {
	t.Helper()
	d := copyDisk(s.disk)
	c := open(t, d)
	for i, cut := range cuts {
		d.Cut(cut)
		_, err := s.do.onCrew(c)
		d.Start(keeps)
		c = open(t, d)
		if err == nil {
			same(t, what+", done", c, s.after)
			doneAgain(t, what, c, s)
			return i == 0
		}
		tells(t, what, err, api.ErrDevice)
		between(t, what, c, s.do, s.before, s.after)
	}
	_, err := s.do.onCrew(c)
	tells(t, what+", again", err, api.OK)
	same(t, what+", again", c, s.after)
	same(t, what+", opened anew", open(t, d), s.after)
	return false
}

// doneAgain does what was done: it is done again, or may not be; all is as it was then.
func doneAgain(t *testing.T, what string, c *crew.Crew, s scene) {
	t.Helper()
	want := api.OK
	switch {
	case s.do.what == "configure" || s.do.what == "help":
		want = api.ErrState
	case s.do.what == "remove" && s.after["status "+s.do.name] == "":
		want = api.ErrMissing
	}
	_, err := s.do.onCrew(c)
	tells(t, what+", done already", err, want)
	same(t, what+", done already", c, s.after)
}

// Promise 12.6: likewise, wherever the room ends.
func TestRoom(t *testing.T) {
	for _, x := range stories() {
		s := lay(t, x)
		ended := false
		for room := 0; !ended; room += 7 {
			what := fmt.Sprintf("%s: room %d", x.what, room)
			d := copyDisk(s.disk)
			c := open(t, d)
			d.Room(room)
			_, err := s.do.onCrew(c)
			if ended = err == nil; !ended {
				tells(t, what, err, api.ErrFull)
				d.Room(-1)
				// What is Down is opened anew; what is not can go on.
				if c.Down() {
					c = open(t, d)
				}
				between(t, what, c, s.do, s.before, s.after)
				_, err = s.do.onCrew(c)
				tells(t, what+", again", err, api.OK)
			}
			same(t, what, c, s.after)
			if t.Failed() {
				return
			}
		}
	}
}

// Promises 12.1 to 12.6: whatever is done, and whenever the power goes off or the room ends, all is as the document's words say, as soon as what failed is done again.
func TestModelPower(t *testing.T) {
	r := die(126)
	failed := 0
	for range 300 {
		d, m, what := &disk.Disk{}, newModel(), ""
		c := open(t, d)
		for range 30 {
			x := r.deed()
			if x.what == "ends" {
				continue
			}
			what += fmt.Sprintf("%q; ", fmt.Sprint(x))
			after := m.clone()
			_, refused := x.onModel(after)
			done := false
			for refused == nil && !done && x.what != "all" && x.what != "edit" && r.yes(2) {
				d.Cut(r.below(40))
				d.Room(r.below(4000))
				_, err := x.onCrew(c)
				d.Room(-1)
				if done = err == nil; !done {
					failed++
					if e := api.Tell(err); e != api.ErrDevice && e != api.ErrFull {
						t.Errorf("%s: %v is none of the disk's errors", what, err)
					}
				}
				d.Start(r.below(5) - 1)
				c = open(t, d)
				between(t, what, c, x, m.look(), after.look())
			}
			if done {
				same(t, what, c, after.look())
				m = after
			} else {
				step(t, what, c, m, x)
			}
			if t.Failed() {
				return
			}
		}
	}
	if failed < 500 {
		t.Errorf("the disk failed %d times", failed)
	}
}
