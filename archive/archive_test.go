package archive_test

import (
	"fmt"
	"reflect"
	"slices"
	"strings"
	"testing"

	"stevedore/api"
	"stevedore/archive"
	"stevedore/record"
)

// ver is a version without an epoch and a revision.
func ver(upstream string) api.Version { return api.Version{Upstream: upstream} }

// file is one.
func file(path, data string) api.File { return api.File{Path: path, Data: data} }

// small is a package that says no more than it must, with files.
func small(files ...api.File) api.Pack {
	return api.Pack{Name: "aa", Version: ver("1.0"), Files: files}
}

// smallHead is how small begins as bytes.
const smallHead = "Package: aa\nVersion: 1.0\n\n"

// whole is a package that says something of each kind, and has files of several kinds.
func whole() api.Pack {
	return api.Pack{
		Name:     "lib-x+2.0",
		Version:  api.Version{Epoch: 3, Upstream: "1.0~a", Revision: "2"},
		Depends:  [][]api.Term{{{Name: "aa", Op: api.AtLeast, Version: ver("1.0")}, {Name: "bb"}}, {{Name: "cc"}}},
		Ahead:    [][]api.Term{{{Name: "dd"}}},
		Against:  []api.Term{{Name: "gg", Op: api.AtMost, Version: ver("2")}, {Name: "hh"}},
		Breaks:   []api.Term{{Name: "ii", Op: api.More, Version: ver("3")}},
		Replaces: []api.Term{{Name: "jj"}},
		Provides: []api.Term{{Name: "ll"}, {Name: "mm", Op: api.Same, Version: ver("5")}},
		Settings: []string{"etc/y", "etc/x"},
		Listens:  []string{"bin", "etc/x", "A"},
		Files: []api.File{
			file("etc/x", ""),
			file("bin/tool", "one\ntwo"),
			file("etc/y", "\n\n"),
			file("etc.d", "etc/y 2\n\n\n\n"),
			file("A", "\x00\xff %\t\r"),
		},
	}
}

// wholeText is whole as bytes.
const wholeText = "Package: lib-x+2.0\n" +
	"Version: 3:1.0~a-2\n" +
	"Depends: aa (>= 1.0) | bb, cc\n" +
	"Pre-Depends: dd\n" +
	"Conflicts: gg (<= 2), hh\n" +
	"Breaks: ii (>> 3)\n" +
	"Replaces: jj\n" +
	"Provides: ll, mm (= 5)\n" +
	"Conffiles:\n etc/y\n etc/x\n" +
	"Triggers:\n bin\n etc/x\n A\n" +
	"\n" +
	"etc/x 0\n\n" +
	"bin/tool 7\none\ntwo\n" +
	"etc/y 2\n\n\n\n" +
	"etc.d 11\netc/y 2\n\n\n\n\n" +
	"A 6\n\x00\xff %\t\r\n"

// paths are so many, none twice.
func paths(n int) []string {
	var l []string
	for i := range n {
		l = append(l, fmt.Sprint("p/", i))
	}
	return l
}

// at are files that have nothing, at these paths.
func at(paths ...string) []api.File {
	var l []api.File
	for _, s := range paths {
		l = append(l, file(s, ""))
	}
	return l
}

// long is a text of so many letters.
func long(n int) string { return strings.Repeat("x", n) }

// show is something as a test tells it: it is cut if it is long.
func show(x any) string { return fmt.Sprintf("%.700s", fmt.Sprintf("%+q", x)) }

// texts are all texts of these bytes, of at most so many.
func texts(of string, most int) []string {
	out := []string{""}
	for from, n := 0, 0; n < most; n++ {
		to := len(out)
		for _, s := range out[from:to] {
			for i := range len(of) {
				out = append(out, s+of[i:i+1])
			}
		}
		from = to
	}
	return out
}

// same says whether two packages are: what they say is told by their fields, as an empty list may be nil or not.
func same(a, b api.Pack) bool {
	l, e := record.Fields(a)
	m, f := record.Fields(b)
	return e == f && slices.Equal(l, m) && slices.Equal(a.Files, b.Files)
}

// right tests Right.
func right(t *testing.T, p api.Pack, want bool) {
	t.Helper()
	if got := archive.Right(p); got != want {
		t.Errorf("Right(%s) = %v, want %v", show(p), got, want)
	}
}

// writes tests Write: of an error nothing but it is told, and it has no place.
func writes(t *testing.T, p api.Pack, want string, err error) {
	t.Helper()
	if got, e := archive.Write(p); got != want || e != err {
		t.Errorf("Write(%s) = %s, %v, want %s, %v", show(p), show(got), e, show(want), err)
	}
}

// Promise 5.1: a package that is Right, with files.
func TestRight(t *testing.T) {
	right(t, small(), true)
	right(t, small([]api.File{}...), true)
	right(t, small(file("a", "x")), true)
	right(t, whole(), true)
	right(t, api.Pack{}, false)
	right(t, api.Pack{Files: at("a")}, false)
}

// Promise 5.1: what is not Right without files is not with them, either.
func TestRightRecord(t *testing.T) {
	for i, spoil := range []func(*api.Pack){
		func(p *api.Pack) { p.Name = "a" },
		func(p *api.Pack) { p.Version.Upstream = "" },
		func(p *api.Pack) { p.Depends = [][]api.Term{{}} },
		func(p *api.Pack) { p.Ahead = [][]api.Term{{{Name: "A"}}} },
		func(p *api.Pack) { p.Against[0].Op = 6 },
		func(p *api.Pack) { p.Breaks[0].Name = "" },
		func(p *api.Pack) { p.Replaces = make([]api.Term, 31) },
		func(p *api.Pack) { p.Provides[1].Op = api.AtLeast },
		func(p *api.Pack) { p.Settings = []string{"etc/x", "etc/x"} },
		func(p *api.Pack) { p.Listens = []string{"/"} },
	} {
		p := whole()
		spoil(&p)
		if archive.Right(p) || record.Right(p) {
			t.Errorf("spoilt in way %d, a package is Right", i)
		}
		writes(t, p, "", api.ErrArg)
	}
}

// Promise 5.1: there are at most MaxPaths files.
func TestRightCount(t *testing.T) {
	for n := range 40 {
		right(t, small(at(paths(n)...)...), n <= 20)
	}
	right(t, small(make([]api.File, 1_000_000)...), false)
	p := small(at(paths(20)...)...)
	p.Settings, p.Listens = paths(20), paths(20)
	right(t, p, true)
}

// Promise 5.1: each file has a path that may be.
func TestRightPath(t *testing.T) {
	for _, s := range append(texts("a/, .", 4), "A", "0", "-", "~x", "a\n", "a b", "a\x7f", "a\xff", "é", long(60), long(61), long(1_000_000)) {
		want := record.Path(s)
		right(t, small(file(s, "")), want)
		right(t, small(file("z", ""), file(s, "")), want)
		right(t, small(file(s, ""), file("z", "")), want)
	}
}

// Promise 5.1: no two files have one path, and none lies beneath another one, wherever they stand.
func TestRightApart(t *testing.T) {
	for _, c := range []struct {
		a, b string
		want bool
	}{
		{"a", "a", false},
		{"a", "A", true},
		{"a", "b", true},
		{"a", "ab", true},
		{"a", "a.b", true},
		{"a", "a/b", false},
		{"a", "a/b/c", false},
		{"a/b", "a/b/c", false},
		{"a/b", "a/c", true},
		{"a/b", "a/bc", true},
		{"a/b", "a/b", false},
		{"a/b", "b", true},
		{"a/b", "b/a", true},
		{"a/b/c", "a/c/b", true},
		{"b/c", "a/b/c", true},
		{long(58), long(58) + "/x", false},
		{long(60), long(60), false},
	} {
		for _, l := range [][]string{{c.a, c.b}, {c.b, c.a}, {"x1", c.a, "y1", c.b, "z1"}, {c.b, "x1", "y1", c.a}} {
			right(t, small(at(l...)...), c.want)
		}
	}
	twice := small(file("a", "x"), file("a", "y"))
	right(t, twice, false)
	for i := range 20 {
		for j := range 20 {
			l := paths(20)
			l[i] = l[j] + "/x"
			right(t, small(at(l...)...), i == j)
			l[i] = l[j]
			right(t, small(at(l...)...), i == j)
		}
	}
}

// Promise 5.1: settings are paths of files; what is listened for need not be.
func TestRightSettings(t *testing.T) {
	for _, c := range []struct {
		settings, files []string
		want            bool
	}{
		{nil, nil, true},
		{[]string{}, []string{"a"}, true},
		{[]string{"a"}, nil, false},
		{[]string{"a"}, []string{"a"}, true},
		{[]string{"a"}, []string{"b"}, false},
		{[]string{"a"}, []string{"A"}, false},
		{[]string{"a"}, []string{"a/b"}, false},
		{[]string{"a/b"}, []string{"a"}, false},
		{[]string{"a/b"}, []string{"a/c", "a/b"}, true},
		{[]string{"b", "a"}, []string{"a", "b"}, true},
		{[]string{"a", "b"}, []string{"a"}, false},
		{[]string{"b", "a"}, []string{"c", "a"}, false},
		{paths(20), paths(20), true},
		{paths(20), paths(19), false},
		{paths(19), paths(20), true},
	} {
		p := small(at(c.files...)...)
		p.Settings = c.settings
		right(t, p, c.want)
		p.Settings, p.Listens = nil, c.settings
		right(t, p, true)
	}
}

// Promise 5.1: Write.
func TestWrite(t *testing.T) {
	writes(t, whole(), wholeText, nil)
	writes(t, small(), smallHead, nil)
	writes(t, small(file("a", "")), smallHead+"a 0\n\n", nil)
	writes(t, small(file("b", "x"), file("a/b", "\n")), smallHead+"b 1\nx\na/b 1\n\n\n", nil)
	for _, n := range []int{9, 10, 99, 100, 999, 1000} {
		writes(t, small(file("a", long(n))), smallText(file("a", long(n))), nil)
	}
}

// Promise 5.1: ErrArg, unless it is Right, however long it is.
func TestWriteWrong(t *testing.T) {
	writes(t, api.Pack{}, "", api.ErrArg)
	writes(t, small(file("", "")), "", api.ErrArg)
	writes(t, small(file("a b", long(10))), "", api.ErrArg)
	writes(t, small(file("a", ""), file("a/b", "")), "", api.ErrArg)
	writes(t, small(file("a", long(5000)), file("a", "")), "", api.ErrArg)
	writes(t, small(at(paths(21)...)...), "", api.ErrArg)
	p := small(file("a", long(5000)))
	p.Settings = []string{"b"}
	writes(t, p, "", api.ErrArg)
}

// smallText is a small package as bytes, with files.
func smallText(files ...api.File) string {
	s := smallHead
	for _, f := range files {
		s += fmt.Sprintf("%s %d\n%s\n", f.Path, len(f.Data), f.Data)
	}
	return s
}

// Promise 5.1: ErrLimit, just if it would have more than MaxBytes bytes.
func TestWriteLimit(t *testing.T) {
	most := 4000 - len(smallHead+"a 1000\n\n")
	all, beyond := 0, 0
	for n := most - 20; n < most+10; n++ {
		for _, l := range [][]api.File{
			{file("a", long(n))},
			{file("a", long(n/2)), file("b", long(n-n/2))},
			{file("b", ""), file("a", long(n))},
			{file("a", long(n)), file("b", "")},
		} {
			want, err := smallText(l...), error(nil)
			if all++; len(want) > 4000 {
				beyond++
				want, err = "", api.ErrLimit
			}
			writes(t, small(l...), want, err)
		}
	}
	if beyond == 0 || beyond == all {
		t.Errorf("%d of %d are beyond the bound", beyond, all)
	}
	for _, n := range []int{3999, 4000, 4001, 1_000_000} {
		writes(t, small(file("a", long(n))), "", api.ErrLimit)
		writes(t, small(file("b", ""), file("a", long(n)), file("c", "")), "", api.ErrLimit)
	}
}

// Promise 5.1: Fields' errors: the stanza alone may be too long.
func TestWriteFieldsLimit(t *testing.T) {
	p := small()
	for i := range 30 {
		p.Breaks = append(p.Breaks, api.Term{Name: fmt.Sprint(long(22), 10+i), Op: api.AtLeast, Version: ver(strings.Repeat("1", 40))})
	}
	if s, err := archive.Write(p); err != nil {
		t.Errorf("Write of %d terms = %s, %v", len(p.Breaks), show(s), err)
	}
	p.Against, p.Replaces = p.Breaks, p.Breaks
	if _, err := record.Fields(p); err != error(api.ErrLimit) {
		t.Fatalf("Fields tell %v, want ErrLimit", err)
	}
	writes(t, p, "", api.ErrLimit)
	p.Files = at("a", "a")
	writes(t, p, "", api.ErrArg)
}

// Promises 5.1, 5.2: what is written is read as it was.
func TestWriteRead(t *testing.T) {
	reads(t, wholeText, whole(), nil)
	for _, s := range texts("a\n 1", 5) {
		for _, p := range []api.Pack{small(file("a", s)), small(file("c", s), file("b", s)), small(file("a1", "1\n"+s), file("b", ""))} {
			text, err := archive.Write(p)
			if err != nil {
				t.Errorf("Write(%s) = %v", show(p), err)
			}
			reads(t, text, p, nil)
		}
	}
	for b := range 256 {
		p := small(file("a", string([]byte{byte(b)})))
		text, err := archive.Write(p)
		if err != nil {
			t.Errorf("Write(%s) = %v", show(p), err)
		}
		reads(t, text, p, nil)
	}
}

// Promises 5.1, 5.2: what is handed in is not written into, nor what stands behind it; what is read is new each time.
func TestPackStays(t *testing.T) {
	p := whole()
	p.Files, p.Settings = p.Files[:3], p.Settings[:1]
	archive.Right(p)
	text, err := archive.Write(p)
	if err != nil {
		t.Fatal(err)
	}
	q, err := archive.Read(text)
	if err != nil {
		t.Fatal(err)
	}
	for i := range q.Files {
		q.Files[i] = api.File{}
	}
	q.Settings[0], q.Listens[0] = "", ""
	p.Files, p.Settings = p.Files[:5], p.Settings[:2]
	if !reflect.DeepEqual(p, whole()) {
		t.Errorf("a package was %s, is %s", show(whole()), show(p))
	}
	reads(t, wholeText, whole(), nil)
}
