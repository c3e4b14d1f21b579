package shelf_test

import (
	"fmt"
	"slices"
	"strings"
	"testing"

	"stevedore/api"
	"stevedore/disk"
	"stevedore/shelf"
)

// reads tests what lies at a path, and whose it is.
func reads(t *testing.T, what string, s *shelf.Shelf, path, want, whose string) {
	t.Helper()
	if data, err := s.Read(path); data != want || err != nil || s.Owner(path) != whose {
		t.Errorf("%s: %q has %q, %v, and is %q's, want %q, of %q", what, path, data, err, s.Owner(path), want, whose)
	}
}

// gone tests that nothing lies at a path, and whose it is.
func gone(t *testing.T, what string, s *shelf.Shelf, path, whose string) {
	t.Helper()
	if data, err := s.Read(path); data != "" || err != api.ErrMissing || s.Owner(path) != whose {
		t.Errorf("%s: %q has %q, %v, and is %q's, want nothing, of %q", what, path, data, err, s.Owner(path), whose)
	}
}

// Promise 10.3: files lie there, in the place of what did; those that it has no more go.
func TestPut(t *testing.T) {
	s, _, _ := run(t, "put", puts(pack("aa", "bin/x=1", "bin/y=2", "doc=")))
	reads(t, "first", s, "bin/x", "1", "aa")
	reads(t, "first", s, "doc", "", "aa")
	s, _, _ = run(t, "put",
		puts(pack("aa", "bin/x=1", "bin/y=2", "doc=", "lib/a=4")),
		edits("bin/x", "mine"), misses("doc"),
		puts(pack("aa", "doc=9", "bin/x=8", "lib/a/b=7")),
	)
	reads(t, "next", s, "bin/x", "8", "aa")
	reads(t, "next", s, "doc", "9", "aa")
	reads(t, "next", s, "lib/a/b", "7", "aa")
	gone(t, "next", s, "bin/y", "")
	gone(t, "next", s, "lib/a", "")
	s, _, _ = run(t, "put", puts(pack("aa", "bin/x=1", "doc=2")), misses("doc"), puts(pack("aa")))
	lists(t, "Owners, of none", s.Owners(), nil)
}

// Promise 10.3: settings come by Choice, and stay, as they were SHIPPED, when a package has them no more.
func TestPutSettings(t *testing.T) {
	s, _, _ := run(t, "untouched", puts(pack("aa", "etc/a!1")), puts(pack("aa", "etc/a!2")))
	reads(t, "untouched", s, "etc/a", "2", "aa")
	s, _, _ = run(t, "changed, the same comes", puts(pack("aa", "etc/a!1")), edits("etc/a", "mine"), puts(pack("aa", "etc/a!1"), true))
	reads(t, "changed, the same comes", s, "etc/a", "mine", "aa")
	s, _, _ = run(t, "gone, the same comes", puts(pack("aa", "etc/a!1")), misses("etc/a"), puts(pack("aa", "etc/a!1"), true))
	gone(t, "gone, the same comes", s, "etc/a", "aa")
	s, _, _ = run(t, "changed, no", puts(pack("aa", "etc/a!1")), edits("etc/a", "mine"), puts(pack("aa", "etc/a!2"), false, true))
	reads(t, "changed, no", s, "etc/a", "mine", "aa")
	s, _, _ = run(t, "changed, yes", puts(pack("aa", "etc/a!1")), edits("etc/a", "mine"), puts(pack("aa", "etc/a!2"), true))
	reads(t, "changed, yes", s, "etc/a", "2", "aa")
	s, _, _ = run(t, "changed, no answer", puts(pack("aa", "etc/a!1")), edits("etc/a", "mine"), puts(pack("aa", "etc/a!2")))
	reads(t, "changed, no answer", s, "etc/a", "mine", "aa")
	s, _, _ = run(t, "left", puts(pack("aa", "etc/a!1", "bin/x=2")), puts(pack("aa", "doc=3")))
	reads(t, "left", s, "etc/a", "1", "aa")
	gone(t, "left", s, "bin/x", "")
	lists(t, "left", s.Settings("aa"), []string{"etc/a"})
	s, _, _ = run(t, "left, gone", puts(pack("aa", "etc/a!1")), misses("etc/a"), puts(pack("aa")))
	gone(t, "left, gone", s, "etc/a", "aa")
}

// Promise 10.3: what was SHIPPED is so in any case, whether it was taken or not: what comes next is held against it.
func TestPutShipped(t *testing.T) {
	first := []deed{puts(pack("aa", "etc/a!1")), edits("etc/a", "mine"), puts(pack("aa", "etc/a!2"), false)}
	s, _, _ := run(t, "the second one again", append(first, puts(pack("aa", "etc/a!2"), true))...)
	reads(t, "the second one again", s, "etc/a", "mine", "aa")
	s, _, _ = run(t, "the first one again", append(first, puts(pack("aa", "etc/a!1"), true))...)
	reads(t, "the first one again", s, "etc/a", "1", "aa")
	s, _, _ = run(t, "what was shipped, by hand", append(first, edits("etc/a", "2"), puts(pack("aa", "etc/a!3")))...)
	reads(t, "what was shipped, by hand", s, "etc/a", "3", "aa")
}

// Promise 10.3: a path that is a setting no more was not SHIPPED; one that is one now asks for what lies there.
func TestPutKinds(t *testing.T) {
	s, _, _ := run(t, "no more", puts(pack("aa", "etc/a!1")), edits("etc/a", "mine"), puts(pack("aa", "etc/a=2")))
	reads(t, "no more", s, "etc/a", "2", "aa")
	lists(t, "no more", s.Settings("aa"), nil)
	s, _, _ = run(t, "no more, goes", puts(pack("aa", "etc/a!1")), puts(pack("aa", "etc/a=2")), puts(pack("aa", "x=")))
	gone(t, "no more, goes", s, "etc/a", "")
	s, _, _ = run(t, "now, no", puts(pack("aa", "etc/a=1")), puts(pack("aa", "etc/a!2")))
	reads(t, "now, no", s, "etc/a", "1", "aa")
	lists(t, "now, no", s.Settings("aa"), []string{"etc/a"})
	s, _, _ = run(t, "now, yes", puts(pack("aa", "etc/a=1")), puts(pack("aa", "etc/a!2"), true))
	reads(t, "now, yes", s, "etc/a", "2", "aa")
	s, _, _ = run(t, "now, gone", puts(pack("aa", "etc/a=1")), misses("etc/a"), puts(pack("aa", "etc/a!2")))
	reads(t, "now, gone", s, "etc/a", "2", "aa")
}

// Promise 10.3: answers are for those that ask, in the files' order, whatever the order of Settings.
func TestPutAnswers(t *testing.T) {
	first := []deed{
		puts(pack("aa", "etc/c!1", "etc/b!1", "etc/a!1", "bin/x=1", "etc/d!1", "etc/e!1", "etc/f!1")),
		edits("etc/c", "mine"), edits("etc/a", "mine"), edits("etc/d", "mine"), edits("bin/x", "mine"), edits("etc/e", "mine"), edits("etc/f", "2"),
	}
	next := pack("aa", "etc/e!1", "etc/c!2", "bin/x=2", "etc/b!2", "etc/f!2", "etc/a!2", "etc/g!2", "etc/d!2")
	slices.Reverse(next.Settings)
	for i := range 16 {
		answers := []bool{i&1 > 0, i&2 > 0, i&4 > 0, true}[:3+i/8]
		what := fmt.Sprint("answers ", answers)
		s, _, _ := run(t, what, append(first, puts(next, answers...))...)
		for j, path := range []string{"etc/c", "etc/a", "etc/d"} {
			want := "mine"
			if answers[j] {
				want = "2"
			}
			reads(t, what, s, path, want, "aa")
		}
		for path, want := range map[string]string{"etc/b": "2", "etc/e": "mine", "etc/f": "2", "etc/g": "2", "bin/x": "2"} {
			reads(t, what, s, path, want, "aa")
		}
	}
	s, _, _ := run(t, "too few", append(first, puts(next, true))...)
	reads(t, "too few", s, "etc/c", "2", "aa")
	reads(t, "too few", s, "etc/a", "mine", "aa")
}

// Promise 10.3: what may be taken is p's then, and nobody else's; what was SHIPPED there counts, whoever's it was.
func TestPutTakes(t *testing.T) {
	s, _, _ := run(t, "takes", puts(pack("bb", "bin/x=1", "bin/y=2")), puts(pack("aa", "bin/x=3")).from("bb"))
	reads(t, "takes", s, "bin/x", "3", "aa")
	lists(t, "takes", s.Paths("bb"), []string{"bin/y"})
	s, _, _ = run(t, "takes all", puts(pack("bb", "bin/x=1")), puts(pack("aa", "bin/x=3")).from("bb"), puts(pack("bb")))
	reads(t, "takes all", s, "bin/x", "3", "aa")
	lists(t, "takes all", s.Owners(), []string{"aa"})
	s, _, _ = run(t, "a setting", puts(pack("bb", "etc/a!1")), puts(pack("aa", "etc/a!2")).from("bb"))
	reads(t, "a setting", s, "etc/a", "2", "aa")
	s, _, _ = run(t, "a changed setting", puts(pack("bb", "etc/a!1")), edits("etc/a", "mine"), puts(pack("aa", "etc/a!1")).from("bb"), drops("bb", true))
	reads(t, "a changed setting", s, "etc/a", "mine", "aa")
	s, _, _ = run(t, "by turns", puts(pack("bb", "etc/a!1")), puts(pack("aa", "etc/a=2")).from("bb"), puts(pack("bb", "etc/a!3"), true).from("aa"))
	reads(t, "by turns", s, "etc/a", "3", "bb")
	lists(t, "by turns", s.Owners(), []string{"bb"})
}

// Promise 10.3, P3: what is refused, what first, and that it changes nothing.
func TestPutRefused(t *testing.T) {
	s, d, m := run(t, "refused", puts(pack("bb", "etc/a!1", "bin/x=2", "lib/a/b=3")), edits("etc/a", "mine"))
	wrong := map[string]api.Pack{
		"no name":        pack("", "x="),
		"a short name":   pack("a", "x="),
		"no path":        pack("aa", "="),
		"a wrong path":   pack("aa", "x/=1"),
		"two of one":     pack("aa", "x=1", "x=2"),
		"beneath":        pack("aa", "x=1", "x/y=2"),
		"of another one": pack("aa", "bin/x=", "bin/x/y="),
	}
	many := pack("aa")
	for i := range api.MaxPaths + 1 {
		many.Files = append(many.Files, api.File{Path: fmt.Sprint("f", i)})
	}
	wrong["too many"] = many
	version := pack("aa", "x=1")
	version.Version = api.Version{}
	wrong["no version"] = version
	setting := pack("aa", "x=1")
	setting.Settings = []string{"y"}
	wrong["a setting without a file"] = setting
	d.Cut(0)
	for what, p := range wrong {
		tells(t, what, s.Put(p, of("bb"), []bool{true, true}), api.ErrArg)
	}
	tellsAt(t, "clash", s.Put(pack("aa", "x=1", "etc/a!2", "bin/x=3"), none, []bool{true}), api.ErrTwice, 1)
	tellsAt(t, "clash", s.Put(pack("aa", "etc/a!2", "x=1", "bin/x=3", "lib/a=4"), of("bb"), []bool{true}), api.ErrTwice, 3)
	tells(t, "power", s.Put(pack("aa", "x=1"), none, nil), api.ErrDevice)
	stands(t, "refused", s, m)
	d.Start(0)
	stands(t, "refused", s, m)
}

// Promise 10.3: at most MaxPaths files, of any bytes, and the longest paths.
func TestPutBounds(t *testing.T) {
	p := pack("aa")
	for i := range api.MaxPaths {
		path := fmt.Sprintf("%02d%s", i, strings.Repeat("~", 58))
		p.Files = append(p.Files, api.File{Path: path, Data: strings.Repeat("\x00\n\xff", i*10_000)})
		p.Settings = append(p.Settings, path)
	}
	run(t, "bounds", puts(p), drops("aa", false), puts(p), drops("aa", true))
}

// Promise 10.3: Drop, with its settings, or without them, of nobody else.
func TestDrop(t *testing.T) {
	first := []deed{puts(pack("aa", "etc/a!1", "bin/x=2", "etc/b!3", "doc=")), puts(pack("bb", "x=4", "etc/c!5")), edits("etc/a", "mine"), misses("doc"), misses("etc/b")}
	s, _, _ := run(t, "drop", append(first, drops("aa", false))...)
	lists(t, "drop", s.Paths("aa"), []string{"etc/a", "etc/b"})
	reads(t, "drop", s, "etc/a", "mine", "aa")
	gone(t, "drop", s, "bin/x", "")
	s, _, _ = run(t, "drop all", append(first, drops("aa", true))...)
	lists(t, "drop all", s.Owners(), []string{"bb"})
	gone(t, "drop all", s, "etc/a", "")
	s, _, _ = run(t, "drop, again", append(first, drops("aa", false), drops("aa", false), drops("cc", true), drops("", true), drops("aa", true), drops("aa", true))...)
	lists(t, "drop, again", s.Owners(), []string{"bb"})
	s, _, _ = run(t, "dropped all, put again", append(first, drops("aa", true), puts(pack("aa", "etc/a!1", "etc/b!3")))...)
	reads(t, "dropped all, put again", s, "etc/a", "1", "aa")
	reads(t, "dropped all, put again", s, "etc/b", "3", "aa")
	s, _, _ = run(t, "dropped, put again", append(first, drops("aa", false), puts(pack("aa", "etc/a!1", "etc/b!3")))...)
	reads(t, "dropped, put again", s, "etc/a", "mine", "aa")
	gone(t, "dropped, put again", s, "etc/b", "aa")
}

// P4: no list that is handed in is written into, or kept, nor what stands behind its length.
func TestHandedIn(t *testing.T) {
	p := pack("aa", "etc/a!1", "etc/b!2", "bin/x=3", "doc=4")
	whole, answers := slices.Clone(p.Files), []bool{true, false, true}
	p.Files = p.Files[:3]
	s, d, m := run(t, "in", puts(pack("aa", "etc/a!0", "etc/b!0")), edits("etc/a", "mine"), edits("etc/b", "mine"))
	step(t, "in", s, m, puts(p, answers[:1]...))
	if !slices.Equal(p.Files[:4], whole) || !slices.Equal(answers, []bool{true, false, true}) || !slices.Equal(p.Settings, []string{"etc/a", "etc/b"}) {
		t.Errorf("what was handed in is %v, %v now", p, answers)
	}
	reads(t, "in", s, "etc/b", "mine", "aa")
	p.Files[0] = api.File{Path: "changed"}
	p.Settings[0] = "changed"
	reads(t, "in, changed", over(t, d), "etc/a", "1", "aa")
	lists(t, "in, changed", s.Paths("aa"), []string{"bin/x", "etc/a", "etc/b"})
}

// P4: what lies on the disk hangs on what was done alone.
func TestSameFiles(t *testing.T) {
	tell := func(d *disk.Disk) string {
		var b strings.Builder
		for _, file := range d.List() {
			s, _ := d.Read(file)
			fmt.Fprintf(&b, "%q %q\n", file, s)
		}
		return b.String()
	}
	l := []deed{puts(pack("aa", "etc/a!1", "bin/x=2")), puts(pack("bb", "x=", "etc/b!")), edits("etc/a", "mine"), puts(pack("aa", "etc/a!2", "doc=3")), drops("bb", false)}
	_, d, _ := run(t, "same", l...)
	want := tell(d)
	for range 5 {
		_, d, _ := run(t, "same", l...)
		if got := tell(d); got != want {
			t.Errorf("the files are %s, were %s", got, want)
		}
	}
}
