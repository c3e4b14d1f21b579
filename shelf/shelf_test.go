package shelf_test

import (
	"fmt"
	"strings"
	"testing"

	"stevedore/api"
	"stevedore/disk"
	"stevedore/shelf"
)

// Promise 10.1: without a disk there is no shelf.
func TestOverNothing(t *testing.T) {
	s, err := shelf.Over(nil)
	tells(t, "Over(nil)", err, api.ErrMissing)
	if s != nil {
		t.Errorf("Over(nil) tells a shelf beside an error")
	}
}

// Promise 10.1: over a new disk nothing lies, and what has nothing to do needs no power.
func TestEmpty(t *testing.T) {
	d := &disk.Disk{}
	d.Cut(0)
	s := over(t, d)
	stands(t, "new", s, nil)
	for _, path := range []string{"", "x", strings.Repeat("x", 100_000), "\x00", "o/x"} {
		what := fmt.Sprintf("%.20q", path)
		tells(t, "Edit "+what, s.Edit(path, "data", false), api.ErrMissing)
		tells(t, "Edit, missing, "+what, s.Edit(path, "", true), api.ErrMissing)
		tells(t, "Drop "+what, s.Drop(path, false), nil)
		tells(t, "Drop all of "+what, s.Drop(path, true), nil)
		if data, err := s.Read(path); data != "" || err != api.ErrMissing || s.Owner(path) != "" {
			t.Errorf("Read(%s) = %q, %v, and it is %q's", what, data, err, s.Owner(path))
		}
	}
	tells(t, "Put nothing", s.Put(pack("aa"), none, nil), nil)
	if l := d.List(); len(l) > 0 {
		t.Errorf("nothing was done, and there is %q", l)
	}
}

// Promise 10.1: Owners, Paths, Settings, Owner, Read: all in order, byte by byte; a package without files has no PATHS.
func TestAsked(t *testing.T) {
	s, _, _ := run(t, "asked",
		puts(pack("cc", "x=1", "B!2", "a/b=3", "a.b!", "a-b!4\n\x00")),
		puts(pack("aa", "etc/b!5", "etc/a!6", "doc=7")),
		puts(pack("a.", "bin/y=8")),
		puts(pack("no")),
	)
	lists(t, "Owners()", s.Owners(), []string{"a.", "aa", "cc"})
	lists(t, "Paths(cc)", s.Paths("cc"), []string{"B", "a-b", "a.b", "a/b", "x"})
	lists(t, "Settings(cc)", s.Settings("cc"), []string{"B", "a-b", "a.b"})
	lists(t, "Settings(aa)", s.Settings("aa"), []string{"etc/a", "etc/b"})
	lists(t, "Settings(a.)", s.Settings("a."), nil)
	lists(t, "Paths(no)", s.Paths("no"), nil)
	if data, err := s.Read("a.b"); data != "" || err != nil || s.Owner("a.b") != "cc" {
		t.Errorf("Read(a.b) = %q, %v, of %q: what is empty lies there", data, err, s.Owner("a.b"))
	}
}

// Promise 10.1: Edit changes what lies at a path, and nothing else.
func TestEdit(t *testing.T) {
	s, _, _ := run(t, "edit",
		puts(pack("aa", "etc/a!1", "etc/b!2", "bin/x=3")),
		edits("etc/a", "mine"), edits("bin/x", ""), edits("etc/b", "2"),
		misses("etc/b"), misses("etc/b"), misses("bin/x"), misses("bin/x"),
		edits("bin/x", "again"), edits("etc/b", "a\nb\x00\xff"),
		edits("etc/c", "x"), misses("etc/c"), edits("etc", "x"), edits("etc/a/", "x"), edits("bin", "x"), edits("aa", "x"),
	)
	tells(t, "Edit nobody's", s.Edit("", "x", false), api.ErrMissing)
	tells(t, "Edit, data and missing", s.Edit("bin/x", "data", true), nil)
	if data, err := s.Read("bin/x"); data != "" || err != api.ErrMissing || s.Owner("bin/x") != "aa" {
		t.Errorf("Read(bin/x) = %q, %v, of %q, want nothing, of aa", data, err, s.Owner("bin/x"))
	}
}

// Promise 10.1, P2: the disk's errors, behind ErrMissing; nothing is changed then.
func TestEditFails(t *testing.T) {
	for cut := range 4 {
		for _, x := range []deed{edits("etc/a", "mine"), edits("bin/x", "mine"), misses("etc/a"), misses("bin/x")} {
			for _, keeps := range []int{0, 1, 2, 100} {
				what := fmt.Sprint(x, ", cut ", cut, ", keeps ", keeps)
				s, d, m := run(t, what, puts(pack("aa", "etc/a!one", "bin/x=two", "bin/y=")), misses("bin/y"))
				d.Cut(cut)
				err := x.do(onShelf(s))
				if err == nil {
					tells(t, what, x.do(onModel(m)), nil)
				} else {
					tells(t, what, err, api.ErrDevice)
				}
				if enough := cut == 3 || x.missing && cut > 0; enough != (err == nil) {
					t.Errorf("%s: %v", what, err)
				}
				stands(t, what, s, m)
				d.Cut(0)
				tells(t, what, s.Edit("nobody", "x", false), api.ErrMissing)
				tells(t, what, s.Edit("bin/y", "x", true), api.ErrMissing)
				tells(t, what, s.Edit("bin/y", "x", false), api.ErrDevice)
				d.Start(keeps)
				stands(t, what+", started", s, m)
				stands(t, what+", anew", over(t, d), m)
			}
		}
	}
	s, d, m := run(t, "full", puts(pack("aa", "etc/a!one", "bin/x=two")))
	d.Room(0)
	tells(t, "Edit, full", s.Edit("etc/a", "mine", false), api.ErrFull)
	stands(t, "full", s, m)
	step(t, "full, missing", s, m, misses("etc/a"))
	d.Room(-1)
	stands(t, "full", over(t, d), m)
}

// Promise 10.1: it lies in files whose names are a letter, a slash, and more, none of them `s/`; it leaves others as they are.
func TestFiles(t *testing.T) {
	others := []string{"book/o", "s/o", "s/aa", "o", "oo/x", "O-x", "bin/x", "etc"}
	d := &disk.Disk{}
	for _, name := range others {
		tells(t, "Write", d.Write(name, name), nil)
		tells(t, "Sync", d.Sync(name), nil)
	}
	s, m := over(t, d), model{}
	long := strings.Repeat("p", 60)
	for i, x := range []deed{
		puts(pack("aa", "etc/a!one", "bin/x=two", "s/x=3", long+"!4")), edits("etc/a", "mine"), puts(pack("bb", "book/x=b", "s/y!")),
		puts(pack("aa", "etc/a!two"), true), drops("bb", false), misses("etc/a"), drops("bb", true), drops("aa", true),
	} {
		step(t, fmt.Sprint("files ", i), s, m, x)
		filesAre(t, d, others)
	}
	if got := d.List(); len(got) != len(others) {
		t.Errorf("all went, and there is %q", got)
	}
}

// filesAre tests files by their names, and that others are as they were.
func filesAre(t *testing.T, d *disk.Disk, others []string) {
	t.Helper()
	left := 0
	for _, file := range d.List() {
		s, _ := d.Read(file)
		switch {
		case strings.Contains("\n"+strings.Join(others, "\n")+"\n", "\n"+file+"\n"):
			left++
			if s != file {
				t.Errorf("another one's file %q is %q now", file, s)
			}
		case len(file) < 3 || file[1] != '/' || file[0]|32 < 'a' || file[0]|32 > 'z' || file[0] == 's':
			t.Errorf("a file is called %q", file)
		}
	}
	if left != len(others) {
		t.Errorf("%d other files are left of %d", left, len(others))
	}
}

// P1: a shelf is as its disk is: another one over it tells the same, and a first one sees what another one did.
func TestTwoShelves(t *testing.T) {
	d, m := &disk.Disk{}, model{}
	a, b := over(t, d), over(t, d)
	for i, x := range []deed{puts(pack("aa", "etc/a!one", "bin/x=two")), puts(pack("bb", "x=b")), edits("etc/a", "mine"), drops("aa", false), drops("bb", false)} {
		what := fmt.Sprint("two ", i)
		step(t, what, a, m, x)
		stands(t, what, b, m)
		d.Start(i)
		stands(t, what+", started", a, m)
		a, b = b, a
	}
}

// P4: what comes out is the caller's.
func TestHandedOut(t *testing.T) {
	s, _, m := run(t, "out", puts(pack("aa", "etc/a!1", "etc/b!2", "bin/x=3")), puts(pack("bb", "x=b")))
	for _, l := range [][]string{s.Owners(), s.Paths("aa"), s.Settings("aa"), s.Paths("bb")} {
		l = l[:cap(l)]
		for i := range l {
			l[i] = "changed"
		}
	}
	stands(t, "out", s, m)
}
