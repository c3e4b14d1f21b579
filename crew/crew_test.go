package crew_test

import (
	"errors"
	"fmt"
	"slices"
	"strings"
	"testing"

	"stevedore/api"
	"stevedore/archive"
	"stevedore/crew"
	"stevedore/depend"
	"stevedore/disk"
	"stevedore/status"
	"stevedore/version"
)

// ver is a version.
func ver(s string) api.Version {
	v, err := version.Parse(s)
	if err != nil {
		panic(s)
	}
	return v
}

// asks is what is asked for.
func asks(s string) [][]api.Term {
	l, err := depend.Terms(s)
	if err != nil {
		panic(s)
	}
	return l
}

// pack is a package: its name (and, behind =, its version; else it is 1.0), and what it says, each a word and what stands behind it; a file is a path, =, and data, a setting likewise.
func pack(name string, says ...string) api.Pack {
	name, v, ok := strings.Cut(name, "=")
	if !ok {
		v = "1.0"
	}
	p := api.Pack{Name: name, Version: ver(v)}
	for _, s := range says {
		word, rest, _ := strings.Cut(s, " ")
		path, data, _ := strings.Cut(rest, "=")
		switch word {
		case "depends":
			p.Depends = asks(rest)
		case "ahead":
			p.Ahead = asks(rest)
		case "against":
			p.Against = slices.Concat(asks(rest)...)
		case "breaks":
			p.Breaks = slices.Concat(asks(rest)...)
		case "replaces":
			p.Replaces = slices.Concat(asks(rest)...)
		case "provides":
			p.Provides = slices.Concat(asks(rest)...)
		case "listens":
			p.Listens = strings.Fields(rest)
		case "setting":
			p.Settings = append(p.Settings, path)
			fallthrough
		case "file":
			p.Files = append(p.Files, api.File{Path: path, Data: data})
		default:
			panic(word)
		}
	}
	return p
}

// text is a package as bytes.
func text(p api.Pack) string {
	s, err := archive.Write(p)
	if err != nil {
		panic(fmt.Sprint(p, err))
	}
	return s
}

// open is a crew; a test can't go on without one.
func open(t *testing.T, d *disk.Disk) *crew.Crew {
	t.Helper()
	c, err := crew.Open(d)
	if c == nil || err != nil {
		t.Fatalf("Open: %v, %v", c, err)
	}
	return c
}

// tells tests an error: it is just that one, without a place.
func tells(t *testing.T, what string, got error, want api.Errno) {
	t.Helper()
	var at *api.At
	if api.Tell(got) != want || errors.As(got, &at) || (got == nil) != (want == api.OK) {
		t.Errorf("%s: %v (%v), want %d", what, got, at, want)
	}
}

// tellsAt tests an error and its place.
func tellsAt(t *testing.T, what string, got error, want api.Errno, place int) {
	t.Helper()
	var at *api.At
	if api.Tell(got) != want || !errors.As(got, &at) || at.Err != want || at.Place != place {
		t.Errorf("%s: %v (%v), want %d at %d", what, got, at, want, place)
	}
}

// fresh is a crew on a new disk.
func fresh(t *testing.T) (*crew.Crew, *disk.Disk) {
	t.Helper()
	d := &disk.Disk{}
	return open(t, d), d
}

// unpack lets packages come, each without an error.
func unpack(t *testing.T, c *crew.Crew, l ...api.Pack) {
	t.Helper()
	for _, p := range l {
		tells(t, "Unpack "+p.Name, c.Unpack(text(p), nil), api.OK)
	}
}

// install lets packages come, and do what they are there for, one by one.
func install(t *testing.T, c *crew.Crew, l ...api.Pack) {
	t.Helper()
	for _, p := range l {
		unpack(t, c, p)
		tells(t, "Configure "+p.Name, c.Configure(p.Name, nil), api.OK)
	}
}

// stand tests how packages stand: each a name, a blank, and how it is printed (of none: `0 - free - -`).
func stand(t *testing.T, what string, c *crew.Crew, l ...string) {
	t.Helper()
	for _, one := range l {
		name, want, _ := strings.Cut(one, " ")
		got, err := status.Print(c.Status(name))
		if got != want || err != nil {
			t.Errorf("%s: %s stands %q, %v, want %q", what, name, got, err, want)
		}
	}
}

// gone is how one stands that is not there.
func gone(name string) string { return name + " 0 - free - -" }

// lists tests a list of texts.
func lists(t *testing.T, what string, got []string, want ...string) {
	t.Helper()
	if !slices.Equal(got, want) {
		t.Errorf("%s: %q, want %q", what, got, want)
	}
}

// ran tests which scripts ran, each as a name, for what, and its end.
func ran(t *testing.T, what string, c *crew.Crew, want ...string) {
	t.Helper()
	var got []string
	for _, x := range c.Calls() {
		got = append(got, fmt.Sprint(x.Name, " ", x.What, " ", x.Well))
	}
	lists(t, what+": calls", got, want...)
}

// reads tests what lies at a path, and whose it is.
func reads(t *testing.T, what string, c *crew.Crew, path, data, owner string) {
	t.Helper()
	got, err := c.Shelf().Read(path)
	if got != data || err != nil || c.Shelf().Owner(path) != owner {
		t.Errorf("%s: %s has %q, %v, is %q's, want %q, %q's", what, path, got, err, c.Shelf().Owner(path), data, owner)
	}
}

// says tests what a package says: its files are not told.
func says(t *testing.T, what string, c *crew.Crew, want api.Pack) {
	t.Helper()
	want.Files = nil
	got, err := c.Pack(want.Name)
	if fmt.Sprint(got) != fmt.Sprint(want) || err != nil {
		t.Errorf("%s: %s says %v, %v, want %v", what, want.Name, got, err, want)
	}
}

// Promise 12.1: Open of no disk; of a new one, on which nobody is.
func TestOpen(t *testing.T) {
	c, err := crew.Open(nil)
	tells(t, "Open(nil)", err, api.ErrMissing)
	if c != nil {
		t.Errorf("Open(nil): %v", c)
	}
	c, d := fresh(t)
	lists(t, "Names", c.Names())
	lists(t, "Audit", c.Audit())
	ran(t, "new", c)
	lists(t, "the disk", d.List())
	if c.Down() || c.Shelf() == nil {
		t.Errorf("new: Down %v, Shelf %v", c.Down(), c.Shelf())
	}
	for _, name := range []string{"", "aa", "a\tb", "\n", strings.Repeat("x", 100_000)} {
		stand(t, "nobody", c)
		if s := c.Status(name); s.State != api.None || s.Version != (api.Version{}) || s.Held || len(s.Waits)+len(s.Tasks) > 0 {
			t.Errorf("Status(%.20q) = %v", name, s)
		}
		p, err := c.Pack(name)
		tells(t, "Pack", err, api.ErrMissing)
		if fmt.Sprint(p) != fmt.Sprint(api.Pack{}) {
			t.Errorf("Pack(%.20q) = %v", name, p)
		}
		tells(t, "Configure", c.Configure(name, []string{name}), api.ErrMissing)
		tells(t, "Help", c.Help(name), api.ErrMissing)
		tells(t, "Remove", c.Remove(name, false), api.ErrMissing)
		tells(t, "Remove, all", c.Remove(name, true), api.ErrMissing)
		tells(t, "Hold", c.Hold(name, true), api.ErrMissing)
		tells(t, "Unpack", c.Unpack(name, nil), api.Tell(readError(name)))
	}
	n, err := c.ConfigureAll()
	if n != 0 || err != nil {
		t.Errorf("ConfigureAll = %d, %v", n, err)
	}
	tells(t, "Tidy", c.Tidy(), api.OK)
	ran(t, "nobody", c)
}

// readError is the archive's error of a text.
func readError(s string) error {
	_, err := archive.Read(s)
	return err
}

// whole is a package that says something of all that can be said.
func whole() api.Pack {
	return pack("aa=1:2.0~a-3", "depends bb (>= 1.0) | cc, dd", "ahead bb", "against xx (<< 2)", "breaks yy", "replaces zz (= 1)",
		"provides vv (= 3), ww", "listens bin etc/x", "file bin/x=1\n2", "setting etc/x=s", "setting etc/y=")
}

// Promise 12.1: all of it lies on the disk: who is there, how each stands, what it says, its files.
func TestOpenAnew(t *testing.T) {
	c, d := fresh(t)
	install(t, c, pack("bb", "listens bin"), pack("dd"))
	unpack(t, c, pack("ee=9", "depends zz"))
	install(t, c, whole())
	tells(t, "Hold", c.Hold("dd", true), api.OK)
	for _, keeps := range []int{-1, 0, 1, 7, 10_000} {
		for range 2 {
			lists(t, "Names", c.Names(), "aa", "bb", "dd", "ee")
			lists(t, "Audit", c.Audit(), "aa", "bb", "ee")
			stand(t, "all", c, "aa 5 1:2.0~a-3 free bb -", "bb 6 1.0 free - bin", "dd 7 1.0 held - -", "ee 3 9 free - -", gone("cc"))
			says(t, "all", c, whole())
			says(t, "all", c, pack("bb", "listens bin"))
			says(t, "all", c, pack("ee=9", "depends zz"))
			reads(t, "all", c, "bin/x", "1\n2", "aa")
			reads(t, "all", c, "etc/y", "", "aa")
			lists(t, "Settings", c.Shelf().Settings("aa"), "etc/x", "etc/y")
			d.Start(keeps)
			c = open(t, d)
			ran(t, "opened anew", c)
		}
		tells(t, "Tidy", c.Tidy(), api.OK)
	}
}

// Promise 12.1: what a package says is told, though it would be too long for a stanza as it is printed.
func TestPackLong(t *testing.T) {
	var short strings.Builder
	short.WriteString("Package:aa\nVersion:1\n#a remark\nOther:x\n")
	for _, field := range []string{"Depends", "Pre-Depends", "Conflicts", "Breaks", "Replaces"} {
		short.WriteString(field + ":")
		for i := range 30 {
			fmt.Fprintf(&short, "package-long-%s-%02d(>=1.0),", strings.ToLower(field[:2]), i)
		}
		s := strings.TrimSuffix(short.String(), ",")
		short.Reset()
		short.WriteString(s + "\n")
	}
	s := short.String() + "\nx 0\n\n"
	p, err := archive.Read(s)
	if err != nil {
		t.Fatal(err)
	}
	if _, err := archive.Write(p); api.Tell(err) != api.ErrLimit {
		t.Fatalf("%d bytes are not too long: %v", len(s), err)
	}
	c, d := fresh(t)
	offers := pack("zz")
	offers.Provides = nil
	for i := range 30 {
		offers.Provides = append(offers.Provides, api.Term{Name: fmt.Sprintf("package-long-pr-%02d", i), Op: api.Same, Version: ver("1.0")})
	}
	install(t, c, offers)
	tells(t, "Unpack", c.Unpack(s, nil), api.OK)
	says(t, "long", c, p)
	says(t, "long, opened anew", open(t, d), p)
	stand(t, "long", c, "aa 3 1 free - -")
}

// Promise 12.1: scripts end as Ends says, and then well; what was said before is forgotten, what ran is not.
func TestEnds(t *testing.T) {
	c, d := fresh(t)
	p, q := text(pack("aa")), text(pack("bb"))
	c.Ends([]bool{false, true, false})
	tells(t, "no", c.Unpack(p, nil), api.ErrFalse)
	tells(t, "yes", c.Unpack(p, nil), api.OK)
	tells(t, "no again", c.Configure("aa", nil), api.ErrFalse)
	tells(t, "behind them", c.Unpack(q, nil), api.OK)
	c.Ends([]bool{false, false, false})
	c.Ends([]bool{true, false})
	tells(t, "anew: yes", c.Configure("aa", nil), api.OK)
	tells(t, "anew: no", c.Configure("bb", nil), api.ErrFalse)
	tells(t, "anew: behind them", c.Configure("bb", nil), api.OK)
	c.Ends([]bool{false})
	c.Ends(nil)
	tells(t, "none: yes", c.Remove("aa", true), api.OK)
	ran(t, "all", c, "aa 1 false", "aa 1 true", "aa 2 false", "bb 1 true", "aa 2 true", "bb 2 false", "bb 2 true", "aa 3 true")
	c.Ends([]bool{false})
	c = open(t, d)
	tells(t, "opened anew", c.Remove("bb", true), api.OK)
	ran(t, "opened anew", c, "bb 3 true")
}

// Promise 12.1: what scripts are told, by their numbers.
func TestWhat(t *testing.T) {
	if crew.Before != 1 || crew.After != 2 || crew.Leave != 3 || crew.Task != 4 {
		t.Errorf("%d %d %d %d", crew.Before, crew.After, crew.Leave, crew.Task)
	}
}

// some is a crew with packages of several states: aa is Awaited, bb Pending, cc Unpacked, dd Config, ee Installed.
func some(t *testing.T) (*crew.Crew, *disk.Disk) {
	t.Helper()
	c, d := fresh(t)
	install(t, c, pack("bb", "listens bin"), pack("aa", "file bin/x=x"), pack("dd", "setting etc/d=d"), pack("ee"))
	unpack(t, c, pack("cc", "file doc=c"))
	tells(t, "Remove", c.Remove("dd", false), api.OK)
	return c, d
}

// someStand are how those stand.
func someStand() []string {
	return []string{"aa 5 1.0 free bb -", "bb 6 1.0 free - bin", "cc 3 1.0 free - -", "dd 1 1.0 free - -", "ee 7 1.0 free - -"}
}

// Promise 12.5: Audit; 12.1: Names.
func TestAudit(t *testing.T) {
	c, _ := some(t)
	stand(t, "some", c, someStand()...)
	lists(t, "Names", c.Names(), "aa", "bb", "cc", "dd", "ee")
	lists(t, "Audit", c.Audit(), "aa", "bb", "cc")
	c.Ends([]bool{false})
	tells(t, "Configure", c.Configure("cc", nil), api.ErrFalse)
	lists(t, "Audit, HalfDone", c.Audit(), "aa", "bb", "cc")
}

// deeds are one of each that changes something, all of which could be done with some; and wrong ones.
func deeds() map[string]func(c *crew.Crew) error {
	all := func(c *crew.Crew) error {
		n, err := c.ConfigureAll()
		if err != nil && n != 0 {
			return fmt.Errorf("%d beside %v", n, err)
		}
		return err
	}
	return map[string]func(c *crew.Crew) error{
		"Unpack":            func(c *crew.Crew) error { return c.Unpack(text(pack("ff", "file f=f")), nil) },
		"Unpack again":      func(c *crew.Crew) error { return c.Unpack(text(pack("ee", "file e=e")), nil) },
		"Configure":         func(c *crew.Crew) error { return c.Configure("cc", nil) },
		"ConfigureAll":      all,
		"Help":              func(c *crew.Crew) error { return c.Help("bb") },
		"Remove":            func(c *crew.Crew) error { return c.Remove("ee", false) },
		"Remove, all":       func(c *crew.Crew) error { return c.Remove("dd", true) },
		"Hold":              func(c *crew.Crew) error { return c.Hold("aa", true) },
		"Hold as it is":     func(c *crew.Crew) error { return c.Hold("aa", false) },
		"wrong Unpack":      func(c *crew.Crew) error { return c.Unpack("", nil) },
		"wrong Configure":   func(c *crew.Crew) error { return c.Configure("zz", nil) },
		"refused Configure": func(c *crew.Crew) error { return c.Configure("ee", nil) },
		"wrong Help":        func(c *crew.Crew) error { return c.Help("zz") },
		"wrong Remove":      func(c *crew.Crew) error { return c.Remove("zz", true) },
		"wrong Hold":        func(c *crew.Crew) error { return c.Hold("zz", true) },
	}
}

// Promise 12.1: behind a write of the book that failed it is Down, and all that change something tell ErrDevice, whatever else is wrong, and whatever becomes of the disk; the book tells Tidy's error itself.
func TestDown(t *testing.T) {
	for what, do := range deeds() {
		c, d := some(t)
		calls := fmt.Sprint(c.Calls())
		d.Cut(0)
		tells(t, "Hold", c.Hold("aa", true), api.ErrDevice)
		for _, start := range []bool{false, true} {
			if start {
				d.Start(0)
			}
			if !c.Down() {
				t.Errorf("%s: it is not Down", what)
			}
			tells(t, what, do(c), api.ErrDevice)
			tells(t, "Tidy", c.Tidy(), api.ErrState)
			stand(t, what, c, someStand()...)
		}
		if is := fmt.Sprint(c.Calls()); is != calls {
			t.Errorf("%s: Down, and calls are %s, were %s", what, is, calls)
		}
		c = open(t, d)
		if c.Down() {
			t.Errorf("%s: opened anew, it is Down", what)
		}
		stand(t, what+", opened anew", c, someStand()...)
	}
}

// Promise 12.1: the disk's errors are told, and a Book's write that fails lets it be Down.
func TestDiskErrors(t *testing.T) {
	for what, do := range deeds() {
		c, d := some(t)
		refused := do(c)
		c, d = some(t)
		d.Cut(0)
		err := do(c)
		if refused != nil {
			tells(t, what+", refused", err, api.Tell(refused))
			continue
		}
		tells(t, what+", no power", err, api.ErrDevice)
		// Settings go from the shelf first, which is no write of the book.
		if c.Down() == (what == "Remove, all") {
			t.Errorf("%s, no power: Down %v", what, c.Down())
		}
		c, d = some(t)
		d.Room(0)
		tells(t, what+", no room", do(c), api.ErrFull)
		if !c.Down() {
			t.Errorf("%s, no room: it is not Down", what)
		}
	}
	c, d := some(t)
	d.Cut(0)
	tells(t, "Tidy", c.Tidy(), api.ErrDevice)
	if !c.Down() {
		t.Errorf("Tidy, no power: it is not Down")
	}
}

// Promise 12.1: an error of the disk that is none of the book's does not let it be Down: what is half done can be done again.
func TestHalfDone(t *testing.T) {
	c, d := some(t)
	p := pack("ff", "file f="+strings.Repeat("f", 2000))
	d.Room(1500)
	tells(t, "Unpack", c.Unpack(text(p), nil), api.ErrFull)
	stand(t, "half done", c, append(someStand(), "ff 2 1.0 free - -")...)
	says(t, "half done", c, p)
	lists(t, "Audit", c.Audit(), "aa", "bb", "cc", "ff")
	if c.Down() {
		t.Errorf("it is Down")
	}
	tells(t, "Configure", c.Configure("ff", nil), api.ErrState)
	d.Room(-1)
	tells(t, "again", c.Unpack(text(p), nil), api.OK)
	stand(t, "again", c, "ff 3 1.0 free - -")
	reads(t, "again", c, "f", strings.Repeat("f", 2000), "ff")
}

// Promise 12.1: one whose coming ended ahead of what it says is there all the same, and can come again, or go.
func TestSaysNothingYet(t *testing.T) {
	for what, do := range map[string]func(c *crew.Crew) error{
		"again": func(c *crew.Crew) error { return c.Unpack(text(pack("ff=2", "depends aa")), nil) },
		"go":    func(c *crew.Crew) error { return c.Remove("ff", false) },
	} {
		c, d := some(t)
		size := 0
		for _, file := range d.List() {
			s, _ := d.Read(file)
			size += len(s)
		}
		// There is room for how it stands, and not for what it says beside that.
		d.Room(size + 60)
		p := pack("ff=2", "depends "+strings.TrimSuffix(strings.Repeat("aa (>= 1.0), ", 20), ", "))
		tells(t, what, c.Unpack(text(p), nil), api.ErrFull)
		if c.Down() {
			t.Fatalf("%s: there is not even room for how it stands", what)
		}
		lists(t, what, c.Names(), "aa", "bb", "cc", "dd", "ee", "ff")
		says(t, what, c, pack("ff=2"))
		d.Room(-1)
		tells(t, what, do(c), api.OK)
	}
}

// Promise 12.4: Hold.
func TestHold(t *testing.T) {
	c, d := some(t)
	for _, name := range c.Names() {
		for _, held := range []bool{true, true, false, false, true} {
			s := c.Status(name)
			tells(t, "Hold", c.Hold(name, held), api.OK)
			s.Held = held
			if is := c.Status(name); fmt.Sprint(is) != fmt.Sprint(s) {
				t.Errorf("Hold(%q, %v): %v, want %v", name, held, is, s)
			}
		}
	}
	c = open(t, d)
	stand(t, "held", c, "aa 5 1.0 held bb -", "bb 6 1.0 held - bin", "cc 3 1.0 held - -", "dd 1 1.0 held - -", "ee 7 1.0 held - -")
	for _, name := range c.Names() {
		tells(t, "Unpack", c.Unpack(text(pack(name, "ahead zz")), nil), api.ErrState)
		tells(t, "Remove", c.Remove(name, false), api.ErrState)
		tells(t, "Remove, all", c.Remove(name, true), api.ErrState)
	}
	ran(t, "refused", c)
	tells(t, "Configure", c.Configure("cc", nil), api.OK)
	tells(t, "Help", c.Help("bb"), api.OK)
	stand(t, "held, working", c, "aa 7 1.0 held - -", "bb 7 1.0 held - -", "cc 7 1.0 held - -")
}

// Promise 12.1: Tidy changes nothing but how much room it takes.
func TestTidy(t *testing.T) {
	c, d := some(t)
	for range 3 {
		tells(t, "Tidy", c.Tidy(), api.OK)
		stand(t, "tidy", c, someStand()...)
		stand(t, "tidy, opened anew", open(t, d), someStand()...)
	}
}

// P4: no list that is handed in is written into or kept; what comes out is the caller's.
func TestLists(t *testing.T) {
	c, _ := some(t)
	ends := []bool{true, false, true, false}
	c.Ends(ends[:2])
	ends[0], ends[1] = false, true
	tells(t, "Help", c.Help("bb"), api.OK)
	with := []string{"cc", "zz", "behind"}
	tells(t, "Configure", c.Configure("cc", with[:2]), api.ErrFalse)
	answers := []bool{true, false}
	tells(t, "Unpack", c.Unpack(text(pack("dd", "setting etc/d=new")), answers[:1]), api.OK)
	if fmt.Sprint(ends, with, answers) != "[false true true false] [cc zz behind] [true false]" {
		t.Errorf("what was handed in is %v %v %v", ends, with, answers)
	}

	c, _ = some(t)
	unpack(t, c, whole2())
	tell := func() string {
		p, _ := c.Pack("ff")
		return fmt.Sprint(c.Names(), c.Audit(), c.Calls(), c.Status("aa"), c.Status("bb"), p)
	}
	was := tell()
	names, audit, calls, p := c.Names(), c.Audit(), c.Calls(), must(c.Pack("ff"))
	waits, tasks := c.Status("aa").Waits, c.Status("bb").Tasks
	for _, l := range [][]string{names, audit, waits, tasks, p.Settings, p.Listens} {
		l = l[:cap(l)]
		for i := range l {
			l[i] = "spoilt"
		}
	}
	for _, l := range append(slices.Concat(p.Depends, p.Ahead), p.Against, p.Breaks, p.Replaces, p.Provides) {
		l[0] = api.Term{Name: "spoilt"}
	}
	calls[0].Name = "spoilt"
	_ = append(calls[:1], crew.Call{Name: "spoilt"})
	if is := tell(); is != was {
		t.Errorf("it tells %s, told %s", is, was)
	}
}

// whole2 is whole, but may come beside some.
func whole2() api.Pack {
	p := whole()
	p.Name = "ff"
	p.Files[0].Path = "usr/x"
	return p
}

func must(p api.Pack, err error) api.Pack {
	if err != nil {
		panic(err)
	}
	return p
}
