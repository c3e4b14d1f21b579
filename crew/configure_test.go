package crew_test

import (
	"fmt"
	"slices"
	"strings"
	"testing"

	"stevedore/api"
	"stevedore/crew"
)

// Promise 12.3: Configure's errors; its state; its script.
func TestConfigure(t *testing.T) {
	c, _ := some(t)
	calls := len(c.Calls())
	for _, name := range []string{"aa", "bb", "dd", "ee"} {
		tells(t, name, c.Configure(name, []string{name, "cc"}), api.ErrState)
	}
	for _, name := range []string{"", "zz", "virtual"} {
		tells(t, name, c.Configure(name, nil), api.ErrMissing)
	}
	if len(c.Calls()) != calls {
		t.Errorf("what was refused ran a script")
	}
	stand(t, "refused", c, someStand()...)
	c.Ends([]bool{false, false})
	tells(t, "not well", c.Configure("cc", nil), api.ErrFalse)
	stand(t, "not well", c, "cc 4 1.0 free - -")
	tells(t, "not well again", c.Configure("cc", nil), api.ErrFalse)
	stand(t, "not well again", c, "cc 4 1.0 free - -")
	tells(t, "well", c.Configure("cc", nil), api.OK)
	stand(t, "well", c, "cc 7 1.0 free - -", someStand()[0], someStand()[1])
	tells(t, "done", c.Configure("cc", nil), api.ErrState)
	want := []crew.Call{{Name: "cc", What: crew.After}, {Name: "cc", What: crew.After}, {Name: "cc", What: crew.After, Well: true}}
	if got := c.Calls()[calls:]; !slices.Equal(got, want) {
		t.Errorf("calls are %v, want %v", got, want)
	}
}

// Promise 12.3: what it depends on is met by those that work, or that are about to.
func TestConfigureDepends(t *testing.T) {
	c, _ := some(t)
	unpack(t, c, pack("ff", "depends aa, bb (>= 1.0), cc | zz, ee, gg"), pack("gg", "depends ff", "provides virtual"))
	stays := func(what string) {
		t.Helper()
		stand(t, what, c, "ff 3 1.0 free - -", "gg 3 1.0 free - -")
	}
	tellsAt(t, "alone", c.Configure("ff", nil), api.ErrMissing, 2)
	tellsAt(t, "with those that are not there", c.Configure("ff", []string{"", "zz", "virtual"}), api.ErrMissing, 2)
	tellsAt(t, "with those that cannot start", c.Configure("ff", []string{"dd", "gg"}), api.ErrMissing, 2)
	tellsAt(t, "with cc", c.Configure("ff", []string{"cc"}), api.ErrMissing, 4)
	stays("refused")
	tellsAt(t, "with itself", c.Configure("gg", []string{"gg"}), api.ErrMissing, 0)
	stays("refused")
	tells(t, "with both", c.Configure("ff", []string{"zz", "gg", "cc", "cc"}), api.OK)
	stand(t, "with both", c, "ff 7 1.0 free - -", "gg 3 1.0 free - -", "cc 3 1.0 free - -")
	tells(t, "then the other one", c.Configure("gg", nil), api.OK)
	stand(t, "then the other one", c, "gg 7 1.0 free - -")
}

// Promise 12.3: who listens for a path, or for one above it, is called.
func TestCalled(t *testing.T) {
	for _, x := range []struct{ listens, tasks string }{
		{"bin/x", "bin/x"},
		{"bin", "bin"},
		{"lib/a/b", "lib/a/b"},
		{"lib/a", "lib/a"},
		{"lib", "lib"},
		{"etc/s", "etc/s"},
		{"bin/x/y", ""},
		{"bi", ""},
		{"bin/x-", ""},
		{"bin/xx", ""},
		{"x", ""},
		{"lib/a/b/c", ""},
		{"other bin/y lib", "lib"},
		{"bin/x bin", "bin/x"},
		{"zz bin bin/x", "bin"},
		{"lib lib/a lib/a/b", "lib"},
		{"lib/a lib lib/a/b", "lib/a"},
		{"lib/a/b lib/a lib", "lib/a/b"},
		{"bin lib", "bin,lib"},
		{"lib bin", "bin,lib"},
		{"other bin/y lib bin", "bin,lib"},
		{"lib/a/b etc/s", "etc/s,lib/a/b"},
		{"lib/a lib bin bin/x", "bin,lib/a"},
		{"lib etc bin", "bin,etc"},
		{"lib/a/b/c bin/x/y etc", "etc"},
		{"Bin", ""},
	} {
		c, _ := fresh(t)
		install(t, c, pack("bb", "listens "+x.listens), pack("aa", "file lib/a/b=1", "file bin/x=1", "setting etc/s=1"))
		if x.tasks == "" {
			stand(t, x.listens, c, "aa 7 1.0 free - -", "bb 7 1.0 free - -")
		} else {
			stand(t, x.listens, c, "aa 5 1.0 free bb -", "bb 6 1.0 free - "+x.tasks)
		}
	}
}

// Promise 12.3: it is its paths that count: settings that are left of what it was, and not what others took.
func TestCalledPaths(t *testing.T) {
	c, _ := fresh(t)
	install(t, c, pack("bb", "listens etc"), pack("cc", "listens bin"), pack("dd", "listens doc"))
	unpack(t, c, pack("aa", "setting etc/a=1", "file bin/a=1", "file doc=1"), pack("aa=2", "file bin/a=2"), pack("ee", "replaces aa", "file bin/a=e"))
	lists(t, "Paths", c.Shelf().Paths("aa"), "etc/a")
	tells(t, "Configure", c.Configure("aa", nil), api.OK)
	stand(t, "aa", c, "aa 5 2 free bb -", "bb 6 1.0 free - etc", "cc 7 1.0 free - -", "dd 7 1.0 free - -")
}

// Promise 12.3: only others to whose state Called may come; at most four, by their names.
func TestCalledWho(t *testing.T) {
	c, _ := fresh(t)
	// a0 is Unpacked, a1 HalfDone, xx Config: none of them works.
	install(t, c, pack("b0", "listens bin"), pack("b5", "listens bin"), pack("b3", "listens bin"), pack("xx", "listens bin", "setting etc/x=x"))
	unpack(t, c, pack("a0", "listens bin"), pack("a1", "listens bin"))
	tells(t, "Remove", c.Remove("xx", false), api.OK)
	c.Ends([]bool{false})
	tells(t, "Configure", c.Configure("a1", nil), api.ErrFalse)
	install(t, c, pack("cc", "file bin/x=1", "listens bin"))
	stand(t, "three", c, "cc 5 1.0 free b0,b3,b5 -", "b0 6 1.0 free - bin", "b3 6 1.0 free - bin", "b5 6 1.0 free - bin",
		"a0 3 1.0 free - -", "a1 4 1.0 free - -", "xx 1 1.0 free - -")
	install(t, c, pack("dd", "file bin/y=1", "listens other bin/y"))
	stand(t, "four, one of which waits", c, "dd 5 1.0 free b0,b3,b5,cc -", "cc 5 1.0 free b0,b3,b5 bin", "b0 6 1.0 free - bin")
	install(t, c, pack("b4", "file bin/z=1", "listens bin"))
	stand(t, "four, and one more", c, "b4 5 1.0 free b0,b3,b5,cc -", "dd 5 1.0 free b0,b3,b5,cc -")
	install(t, c, pack("aa", "file bin/aa=1"))
	stand(t, "four of five", c, "aa 5 1.0 free b0,b3,b4,b5 -", "b4 5 1.0 free b0,b3,b5,cc bin", "cc 5 1.0 free b0,b3,b5 bin")
	tells(t, "Help", c.Help("cc"), api.ErrState)
	tells(t, "Configure", c.Configure("cc", nil), api.ErrState)
}

// Promise 12.3: tasks rise, each once, at most the first two.
func TestTasks(t *testing.T) {
	c, _ := fresh(t)
	install(t, c, pack("zz", "listens d c b a"))
	for _, x := range []struct{ file, tasks string }{
		{"c/1", "c"}, {"c/2", "c"}, {"d/1", "c,d"}, {"c/3", "c,d"}, {"a/1", "a,c"}, {"d/2", "a,c"}, {"b/1", "a,b"}, {"a/2", "a,b"},
	} {
		name := "p" + strings.ReplaceAll(x.file, "/", "")
		install(t, c, pack(name, "file "+x.file+"=1"))
		stand(t, x.file, c, "zz 6 1.0 free - "+x.tasks, name+" 5 1.0 free zz -")
	}
}

// Promise 12.3: of several paths of a package each counts by itself, for each the first of Listens.
func TestTasksOfSeveral(t *testing.T) {
	for _, x := range []struct{ listens, files, tasks string }{
		{"bin/x lib/a", "bin/x lib/a/b", "bin/x,lib/a"},
		{"lib/a bin/x", "bin/x lib/a/b", "bin/x,lib/a"},
		{"bin bin/y", "bin/x bin/y", "bin"},
		{"bin/y bin", "bin/x bin/y", "bin,bin/y"},
		{"bin/y bin", "bin/y", "bin/y"},
		{"bin/y bin/x bin", "bin/x bin/y bin/z", "bin,bin/x"},
		{"d c b a", "a b c", "a,b"},
		{"d c b", "a b c", "b,c"},
		{"d", "a b d/1 d/2", "d"},
	} {
		c, d := fresh(t)
		p := pack("aa")
		for _, path := range strings.Fields(x.files) {
			p.Files = append(p.Files, api.File{Path: path})
		}
		install(t, c, pack("zz", "listens "+x.listens), p)
		want := []string{"zz 6 1.0 free - " + x.tasks, "aa 5 1.0 free zz -"}
		stand(t, fmt.Sprint(x), c, want...)
		stand(t, fmt.Sprint(x, " opened anew"), open(t, d), want...)
	}
	// They come beside those that it has, and it is one of those that are called, however many they are.
	c, _ := fresh(t)
	for _, name := range []string{"z0", "z1", "z2", "z3", "z4"} {
		install(t, c, pack(name, "listens a b c"))
	}
	install(t, c, pack("aa", "file b=1"))
	stand(t, "one", c, "aa 5 1.0 free z0,z1,z2,z3 -", "z0 6 1.0 free - b", "z3 6 1.0 free - b", "z4 7 1.0 free - -")
	install(t, c, pack("bb", "file c=1", "file a=1"))
	stand(t, "two more", c, "bb 5 1.0 free z0,z1,z2,z3 -", "z0 6 1.0 free - a,b", "z3 6 1.0 free - a,b", "z4 7 1.0 free - -")
}

// Promise 12.3: nobody is called by one whose script does not well, or that may not start.
func TestCalledNot(t *testing.T) {
	c, _ := fresh(t)
	install(t, c, pack("bb", "listens bin"))
	unpack(t, c, pack("aa", "depends cc", "file bin/x=1"))
	tellsAt(t, "missing", c.Configure("aa", nil), api.ErrMissing, 0)
	stand(t, "missing", c, "aa 3 1.0 free - -", "bb 7 1.0 free - -")
	unpack(t, c, pack("aa", "file bin/x=1"))
	c.Ends([]bool{false})
	tells(t, "not well", c.Configure("aa", nil), api.ErrFalse)
	stand(t, "not well", c, "aa 4 1.0 free - -", "bb 7 1.0 free - -")
	tells(t, "well", c.Configure("aa", nil), api.OK)
	stand(t, "well", c, "aa 5 1.0 free bb -", "bb 6 1.0 free - bin")
}

// all tests ConfigureAll.
func all(t *testing.T, what string, c *crew.Crew, want int) {
	t.Helper()
	n, err := c.ConfigureAll()
	if n != want || err != nil {
		t.Errorf("%s: ConfigureAll = %d, %v, want %d", what, n, err, want)
	}
}

// Promise 12.3: all are Configured, in line, with all of them.
func TestConfigureAll(t *testing.T) {
	c, _ := fresh(t)
	all(t, "nobody", c, 0)
	unpack(t, c, pack("aa", "depends bb"), pack("bb", "depends cc, dd"), pack("cc"), pack("dd", "depends bb"), pack("ee", "depends zz"), pack("ff", "depends ee"))
	all(t, "some", c, 5)
	var got []string
	for _, x := range c.Calls()[6:] {
		got = append(got, fmt.Sprint(x.Name, " ", x.What))
	}
	// The one that misses something is about to all the same, so that one that depends on it is done.
	lists(t, "some", got, "cc 2", "bb 2", "dd 2", "aa 2", "ff 2")
	stand(t, "some", c, "aa 7 1.0 free - -", "bb 7 1.0 free - -", "dd 7 1.0 free - -", "ee 3 1.0 free - -", "ff 7 1.0 free - -")
	all(t, "again", c, 0)
	unpack(t, c, pack("zz"))
	all(t, "what was missing came", c, 2)
	lists(t, "all", c.Audit())
}

// Promise 12.3: an error of one does not end it.
func TestConfigureAllScripts(t *testing.T) {
	c, _ := fresh(t)
	unpack(t, c, pack("aa"), pack("bb"), pack("cc"), pack("dd", "listens bin"), pack("ee", "file bin/x=1"))
	c.Ends([]bool{true, false, true})
	all(t, "one does not well", c, 4)
	stand(t, "one does not well", c, "aa 7 1.0 free - -", "bb 4 1.0 free - -", "cc 7 1.0 free - -", "dd 6 1.0 free - bin", "ee 5 1.0 free dd -")
	all(t, "again", c, 1)
	stand(t, "again", c, "bb 7 1.0 free - -")
	lists(t, "others have something to do", c.Audit(), "dd", "ee")
}

// Promises 12.1, 12.3: if it is Down, that is told, though nobody is about to.
func TestConfigureAllDown(t *testing.T) {
	c, d := fresh(t)
	d.Cut(0)
	tells(t, "Tidy", c.Tidy(), api.ErrDevice)
	n, err := c.ConfigureAll()
	tells(t, "ConfigureAll", err, api.ErrDevice)
	if n != 0 {
		t.Errorf("%d beside an error", n)
	}
}

// Promise 12.3: an error of the disk ends it; with it nothing else is told.
func TestConfigureAllPower(t *testing.T) {
	ended := false
	for cut := 0; !ended; cut++ {
		what := fmt.Sprint("cut ", cut)
		c, d := fresh(t)
		unpack(t, c, pack("aa", "depends bb"), pack("bb"), pack("cc", "file bin/x=1"), pack("dd", "depends zz"), pack("ee", "depends cc", "listens bin"))
		calls := len(c.Calls())
		d.Cut(cut)
		n, err := c.ConfigureAll()
		ran := len(c.Calls()) - calls
		if ended = err == nil; ended {
			if n != 4 || ran != 4 || c.Down() {
				t.Errorf("%s: %d, %d scripts, Down %v", what, n, ran, c.Down())
			}
			break
		}
		tells(t, what, err, api.ErrDevice)
		if n != 0 || !c.Down() || ran > 1+cut/6 {
			t.Errorf("%s: %d, %d scripts, Down %v", what, n, ran, c.Down())
		}
		d.Start(cut % 5)
		c = open(t, d)
		if _, err := c.ConfigureAll(); err != nil {
			t.Errorf("%s, again: %v", what, err)
		}
		stand(t, what, c, "aa 7 1.0 free - -", "bb 7 1.0 free - -", "cc 7 1.0 free - -", "dd 3 1.0 free - -", "ee 7 1.0 free - -")
	}
}
