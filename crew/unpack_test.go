package crew_test

import (
	"fmt"
	"strings"
	"testing"

	"stevedore/api"
	"stevedore/crew"
)

// Promise 12.2: a package's files come.
func TestUnpack(t *testing.T) {
	c, _ := fresh(t)
	p := pack("aa", "file bin/x=1", "file bin/y=2", "setting etc/x=3")
	tells(t, "first", c.Unpack(text(p), nil), api.OK)
	stand(t, "first", c, "aa 3 1.0 free - -")
	says(t, "first", c, p)
	lists(t, "first", c.Shelf().Paths("aa"), "bin/x", "bin/y", "etc/x")
	reads(t, "first", c, "bin/x", "1", "aa")
	ran(t, "first", c, "aa 1 true")
	q := pack("aa=0.9", "provides vv", "file bin/x=new", "file bin/z=z")
	tells(t, "next", c.Unpack(text(q), nil), api.OK)
	stand(t, "next", c, "aa 3 0.9 free - -")
	says(t, "next", c, q)
	lists(t, "next", c.Shelf().Paths("aa"), "bin/x", "bin/z", "etc/x")
	reads(t, "next", c, "bin/x", "new", "aa")
	ran(t, "next", c, "aa 1 true", "aa 1 true")
}

// Promise 12.2: Read's errors, ahead of all others; no script runs.
func TestUnpackRead(t *testing.T) {
	c, _ := some(t)
	tells(t, "Hold", c.Hold("aa", true), api.OK)
	calls := len(c.Calls())
	for s, want := range map[string]api.Errno{
		strings.Repeat("x", 4001):     api.ErrLimit,
		"":                            api.ErrForm,
		"Package: aa\nVersion: 1\n":   api.ErrForm,
		"wrong\n\n":                   api.ErrForm,
		"Package: aa\n\n":             api.ErrMissing,
		"Package: aa\nVersion: x\n\n": api.ErrForm,
		"Package: a\nVersion: 1\n\n":  api.ErrArg,
		"Package: aa\nVersion: 1\n\nbin/x 2\n1\n":               api.ErrForm,
		"Package: aa\nVersion: 1\n\nx 0\n\nx 0\n\n":             api.ErrArg,
		"Package: aa\nVersion: 1\nConffiles:\n etc/x\n\n":       api.ErrArg,
		"Package: aa\nVersion: 1\nPre-Depends: zz\n\nx 0\n\nx ": api.ErrForm,
	} {
		tells(t, fmt.Sprintf("Unpack(%.40q)", s), c.Unpack(s, nil), want)
	}
	if len(c.Calls()) != calls {
		t.Errorf("a script ran")
	}
}

// Promise 12.2: MaxPacks may be there, in whatever state, and no more; that is told ahead of what is asked for.
func TestUnpackFull(t *testing.T) {
	c, d := fresh(t)
	for i := range api.MaxPacks - 1 {
		unpack(t, c, pack(fmt.Sprint("pack", i)))
	}
	install(t, c, pack("dd", "setting etc/d=d"))
	tells(t, "Remove", c.Remove("dd", false), api.OK)
	for _, p := range []api.Pack{pack("zz"), pack("aa", "ahead xx"), pack("bb", "against pack0"), pack("cc", "file etc/d=x")} {
		tells(t, "one more", c.Unpack(text(p), nil), api.ErrFull)
	}
	if n := len(c.Names()); n != api.MaxPacks {
		t.Errorf("%d are there", n)
	}
	tells(t, "one that is there", c.Unpack(text(pack("pack7=2")), nil), api.OK)
	tells(t, "one whose settings are there", c.Unpack(text(pack("dd=2")), nil), api.OK)
	c = open(t, d)
	tells(t, "opened anew", c.Unpack(text(pack("zz")), nil), api.ErrFull)
	tells(t, "Remove", c.Remove("pack7", false), api.OK)
	tells(t, "in the place of one that went", c.Unpack(text(pack("zz")), nil), api.OK)
	tells(t, "and one more", c.Unpack(text(pack("pack7")), nil), api.ErrFull)
}

// Promise 12.2: check's errors, their places counted by names among all that are there.
func TestUnpackCheck(t *testing.T) {
	c, _ := some(t)
	install(t, c, pack("ff", "against xx", "breaks yy (<< 2)"))
	was := c.Status("ee")
	calls := len(c.Calls())
	for _, x := range []struct {
		p     api.Pack
		want  api.Errno
		place int
	}{
		{pack("gg", "ahead aa, bb, cc"), api.ErrMissing, 2},
		{pack("gg", "ahead dd | cc"), api.ErrMissing, 0},
		{pack("ee", "ahead aa, ee"), api.ErrMissing, 1},
		{pack("gg", "ahead zz", "against aa", "file bin/x=1"), api.ErrMissing, 0},
		{pack("gg", "against cc, ff", "file bin/x=1"), api.ErrFalse, 2},
		{pack("xx", "breaks ff"), api.ErrFalse, 5},
		{pack("yy", "against ff"), api.ErrFalse, 5},
		{pack("gg", "breaks ee", "file bin/x=1"), api.ErrOrder, 4},
		{pack("yy=1.9", "breaks cc"), api.ErrOrder, 5},
		{pack("ee", "breaks bb"), api.ErrOrder, 1},
	} {
		tellsAt(t, fmt.Sprint("Unpack ", x.p), c.Unpack(text(x.p), nil), x.want, x.place)
	}
	if len(c.Calls()) != calls || fmt.Sprint(c.Status("ee")) != fmt.Sprint(was) {
		t.Errorf("what was refused did something: %v, %v", c.Calls(), c.Status("ee"))
	}
	lists(t, "Names", c.Names(), "aa", "bb", "cc", "dd", "ee", "ff")
	// What is of settings alone does not count, nor what does not work, where that is asked.
	unpack(t, c, pack("gg", "against dd, ee (<< 1)", "breaks cc"), pack("yy=2"), pack("ee", "against ee", "breaks ee"))
}

// Promise 12.2: files are taken from packages that are there, by their own names and versions alone.
func TestUnpackTakes(t *testing.T) {
	for _, x := range []struct {
		replaces string
		place    int // of the file that may not come; -1: all may
	}{
		{"bb", -1},
		{"bb (>= 1.0)", -1},
		{"bb (= 1.0)", -1},
		{"zz, bb (<< 2)", -1},
		{"bb (>> 1.0)", 1},
		{"bb (<< 1.0)", 1},
		{"zz", 1},
		{"virtual", 1},
		{"virtual (= 3)", 1},
		{"cc", 1},
		{"aa", 1},
		{"", 1},
	} {
		c, _ := fresh(t)
		install(t, c, pack("bb", "provides virtual (= 3), cc", "file bin/x=b", "file bin/y=b", "setting etc/b=b"))
		p := pack("aa", "file doc=a", "file bin/x=a", "setting etc/b=a")
		if x.replaces != "" {
			p.Replaces = pack("aa", "replaces "+x.replaces).Replaces
		}
		err := c.Unpack(text(p), nil)
		if x.place >= 0 {
			tellsAt(t, x.replaces, err, api.ErrTwice, x.place)
			reads(t, x.replaces, c, "bin/x", "b", "bb")
			lists(t, x.replaces, c.Shelf().Owners(), "bb")
			ran(t, x.replaces, c, "bb 1 true", "bb 2 true")
			stand(t, x.replaces, c, gone("aa"))
			continue
		}
		tells(t, x.replaces, err, api.OK)
		reads(t, x.replaces, c, "bin/x", "a", "aa")
		// It was a setting of the other one, as it came, so that it is taken.
		reads(t, x.replaces, c, "etc/b", "a", "aa")
		lists(t, x.replaces, c.Shelf().Paths("bb"), "bin/y")
		stand(t, x.replaces, c, "bb 7 1.0 free - -", "aa 3 1.0 free - -")
	}
}

// Promise 12.2: settings that are left are their package's, too; what lies beneath or above is never taken.
func TestUnpackBeside(t *testing.T) {
	c, _ := some(t)
	tellsAt(t, "settings alone", c.Unpack(text(pack("ff", "file etc/d=f")), nil), api.ErrTwice, 0)
	tellsAt(t, "beneath", c.Unpack(text(pack("ff", "replaces aa", "file f=f", "file bin/x/y=f")), nil), api.ErrTwice, 1)
	tellsAt(t, "above", c.Unpack(text(pack("ff", "replaces aa, dd", "file f=f", "file etc=f")), nil), api.ErrTwice, 1)
	tells(t, "replaced settings", c.Unpack(text(pack("ff", "replaces dd", "file etc/d=f")), nil), api.OK)
	stand(t, "replaced settings", c, "dd 1 1.0 free - -", "ff 3 1.0 free - -")
	tells(t, "nothing is left", c.Remove("dd", false), api.OK)
	stand(t, "nothing is left", c, gone("dd"))
	tells(t, "Put", c.Shelf().Put(pack("zz", "file z=z"), nil, nil), api.OK)
	tellsAt(t, "of one that is not there", c.Unpack(text(pack("gg", "replaces zz", "file z=g")), nil), api.ErrTwice, 0)
}

// Promise 12.2: unless its script does well, nothing changes.
func TestUnpackScript(t *testing.T) {
	c, d := some(t)
	for _, p := range []api.Pack{pack("zz", "file z=z"), pack("aa=2", "depends ee", "file bin/z=z"), pack("dd=3")} {
		c.Ends([]bool{false})
		was := fmt.Sprint(files(d))
		tells(t, "Unpack", c.Unpack(text(p), nil), api.ErrFalse)
		stand(t, "not well", c, append(someStand(), gone("zz"))...)
		if is := fmt.Sprint(files(d)); is != was {
			t.Errorf("the disk has %s, had %s", is, was)
		}
		if l := c.Calls(); l[len(l)-1] != (crew.Call{Name: p.Name, What: crew.Before}) {
			t.Errorf("calls are %v", l)
		}
	}
}

// Promise 12.2: whatever its state was: its version is the new one; it has no tasks, and waits for nobody. Who waits for it goes on to.
func TestUnpackStates(t *testing.T) {
	for _, name := range []string{"aa", "bb", "cc", "dd", "ee"} {
		c, _ := some(t)
		tells(t, name, c.Unpack(text(pack(name+"=2")), nil), api.OK)
		for _, s := range someStand() {
			if s[:2] == name {
				s = name + " 3 2 free - -"
			}
			stand(t, "Unpack "+name, c, s)
		}
	}
	c, _ := some(t)
	c.Ends([]bool{false})
	tells(t, "Configure", c.Configure("cc", nil), api.ErrFalse)
	stand(t, "HalfDone", c, "cc 4 1.0 free - -")
	unpack(t, c, pack("cc=3"))
	stand(t, "of HalfDone", c, "cc 3 3 free - -")
}

// Promise 12.2: settings that somebody changed come as the answers say.
func TestUnpackAnswers(t *testing.T) {
	for i := range 8 {
		answers := []bool{i&1 > 0, i&2 > 0, true}[:2+i/4]
		c, _ := fresh(t)
		unpack(t, c, pack("aa", "setting etc/a=1", "setting etc/b=1", "setting etc/c=1", "setting etc/d=1"))
		for _, path := range []string{"etc/a", "etc/c", "etc/d"} {
			tells(t, "Edit", c.Shelf().Edit(path, "mine", false), api.OK)
		}
		p := pack("aa=2", "setting etc/a=2", "setting etc/b=2", "setting etc/c=2", "setting etc/d=2")
		tells(t, "Unpack", c.Unpack(text(p), answers), api.OK)
		for j, path := range []string{"etc/a", "etc/c", "etc/d"} {
			want := "mine"
			if j < len(answers) && answers[j] {
				want = "2"
			}
			reads(t, fmt.Sprint(answers), c, path, want, "aa")
		}
		reads(t, fmt.Sprint(answers), c, "etc/b", "2", "aa")
	}
}
