package record_test

import (
	"fmt"
	"math"
	"reflect"
	"regexp"
	"slices"
	"strings"
	"testing"

	"stevedore/api"
	"stevedore/record"
	"stevedore/stanza"
)

// ver is a version without an epoch and a revision.
func ver(upstream string) api.Version { return api.Version{Upstream: upstream} }

// anyOf is a term that asks for any version.
func anyOf(name string) api.Term { return api.Term{Name: name} }

// term is one that asks for a version.
func term(name string, op int, upstream string) api.Term {
	return api.Term{Name: name, Op: op, Version: ver(upstream)}
}

// some are terms.
func some(l ...api.Term) []api.Term { return l }

// asks is what is asked for, each: one of some.
func asks(l ...[]api.Term) [][]api.Term { return l }

// small is a package that says no more than it must.
func small() api.Pack { return api.Pack{Name: "aa", Version: ver("1.0")} }

// whole is a package that says something of each kind.
func whole() api.Pack {
	return api.Pack{
		Name:     "lib-x+2.0",
		Version:  api.Version{Epoch: 3, Upstream: "1.0~a", Revision: "2"},
		Depends:  asks(some(term("aa", api.AtLeast, "1.0"), anyOf("bb")), some(anyOf("cc"))),
		Ahead:    asks(some(anyOf("dd")), some(anyOf("ee"), term("ff", api.Less, "9"))),
		Against:  some(term("gg", api.AtMost, "2"), anyOf("hh")),
		Breaks:   some(term("ii", api.More, "3")),
		Replaces: some(anyOf("jj"), term("kk", api.Same, "4"), anyOf("jj")),
		Provides: some(anyOf("ll"), term("mm", api.Same, "5")),
		Settings: []string{"etc/x", "etc/y.conf"},
		Listens:  []string{"bin", "etc/x", "A"},
	}
}

// list is fields, of names and values by turns.
func list(l ...string) []api.Field {
	var out []api.Field
	for i := 0; i < len(l); i += 2 {
		out = append(out, api.Field{Name: l[i], Value: l[i+1]})
	}
	return out
}

// wholeFields are those of whole.
func wholeFields() []api.Field {
	return list(
		"Package", "lib-x+2.0",
		"Version", "3:1.0~a-2",
		"Depends", "aa (>= 1.0) | bb, cc",
		"Pre-Depends", "dd, ee | ff (<< 9)",
		"Conflicts", "gg (<= 2), hh",
		"Breaks", "ii (>> 3)",
		"Replaces", "jj, kk (= 4), jj",
		"Provides", "ll, mm (= 5)",
		"Conffiles", "\netc/x\netc/y.conf",
		"Triggers", "\nbin\netc/x\nA",
	)
}

// names are so many terms.
func names(n int) []api.Term {
	var l []api.Term
	for i := range n {
		l = append(l, anyOf(fmt.Sprint("n", i)))
	}
	return l
}

// each is every term by itself.
func each(l []api.Term) [][]api.Term {
	var out [][]api.Term
	for _, t := range l {
		out = append(out, some(t))
	}
	return out
}

// paths are so many, none twice.
func paths(n int) []string {
	var l []string
	for i := range n {
		l = append(l, fmt.Sprint("p/", i))
	}
	return l
}

// long is a text of so many letters.
func long(n int) string { return strings.Repeat("x", n) }

// show is something as a test tells it: it is cut if it is long.
func show(x any) string { return fmt.Sprintf("%.500s", fmt.Sprintf("%+q", x)) }

// texts are all texts of these bytes, of at most so many.
func texts(of string, most int) []string {
	out := []string{""}
	for from, n := 0, 0; n < most; n++ {
		to := len(out)
		for _, s := range out[from:to] {
			for i := range len(of) {
				out = append(out, s+of[i:i+1])
			}
		}
		from = to
	}
	return out
}

// same says whether two packages are: an empty list may be nil or not.
func same(a, b api.Pack) bool {
	return a.Name == b.Name && a.Version == b.Version &&
		slices.EqualFunc(a.Depends, b.Depends, slices.Equal) &&
		slices.EqualFunc(a.Ahead, b.Ahead, slices.Equal) &&
		slices.Equal(a.Against, b.Against) && slices.Equal(a.Breaks, b.Breaks) &&
		slices.Equal(a.Replaces, b.Replaces) && slices.Equal(a.Provides, b.Provides) &&
		slices.Equal(a.Settings, b.Settings) && slices.Equal(a.Listens, b.Listens) &&
		slices.Equal(a.Files, b.Files)
}

// Promise 4.1: a path is 1 to 60 bytes.
func TestPathLong(t *testing.T) {
	for n := range 200 {
		if got, want := record.Path(long(n)), 1 <= n && n <= 60; got != want {
			t.Errorf("Path of %d letters = %v, want %v", n, got, want)
		}
	}
	if record.Path(long(1_000_000)) {
		t.Error("Path of a million letters = true")
	}
	if !record.Path(strings.Repeat("x/", 29)+"xx") || record.Path(strings.Repeat("x/", 30)+"x") {
		t.Error("Path of 60 and 61 bytes with / between is not told apart")
	}
}

// Promise 4.1: of all bytes just those that are named may stand in a path, not all of them first or last.
func TestPathBytes(t *testing.T) {
	const first = "ABCDEFGHIJKLMNOPQRSTUVWXYZabcdefghijklmnopqrstuvwxyz0123456789"
	for c := range 256 {
		s := string([]byte{byte(c)})
		head := strings.Contains(first, s)
		inside := 33 <= c && c <= 126 && c != ','
		last := inside && c != '/'
		for _, x := range []struct {
			path string
			want bool
		}{
			{s, head}, {s + "a", head}, {s + "/a", head}, {s + s, head},
			{"a" + s + "a", inside}, {"0" + s + "a/b", inside},
			{"a" + s, last}, {"a/b" + s, last}, {"a/" + s, last}, {"a/" + s + "b", last}, {long(59) + s, last},
		} {
			if got := record.Path(x.path); got != x.want {
				t.Errorf("Path(%q) = %v, want %v", x.path, got, x.want)
			}
		}
	}
}

// Promise 4.1: all short texts are paths or not, as another way tells.
func TestPathAll(t *testing.T) {
	form := regexp.MustCompile(`^[A-Za-z0-9][!-+\-.0-~]*(?:/[!-+\-.0-~]+)*$`)
	for _, s := range texts("aZ0/.,- \n", 6) {
		// $ stands at the end alone, as no flag is set.
		if got, want := record.Path(s), form.MatchString(s); got != want {
			t.Errorf("Path(%q) = %v, want %v", s, got, want)
		}
	}
	for _, s := range []string{"bin/x", "a/../b", "a/.", "0", "Z", "a:b", "a#b", "a~", "lib/a/b"} {
		if !record.Path(s) {
			t.Errorf("Path(%q) = false", s)
		}
	}
	for _, s := range []string{"", "/", "/bin", ".", "..", "-a", "a//b", "a///b", "a/", "a//", "a b", "a\n", "aé", "é", "a,b", "a\x7f"} {
		if record.Path(s) {
			t.Errorf("Path(%q) = true", s)
		}
	}
}

// right tests Right, and that Fields has ErrArg just for what is not.
func right(t *testing.T, p api.Pack, want bool) {
	t.Helper()
	if got := record.Right(p); got != want {
		t.Errorf("Right(%s) = %v, want %v", show(p), got, want)
	}
	l, err := record.Fields(p)
	if (err == error(api.ErrArg)) == want {
		t.Errorf("Fields(%s) = %s, %v, but Right is to be %v", show(p), show(l), err, want)
	}
	if err != nil && len(l) > 0 {
		t.Errorf("Fields(%s) = %s beside %v", show(p), show(l), err)
	}
}

// Promise 4.1: a package has a name and a version; its files are not looked at.
func TestRight(t *testing.T) {
	right(t, api.Pack{}, false)
	right(t, small(), true)
	right(t, whole(), true)
	for _, name := range []string{"", "a", "Aa", "aa ", "-a", "aa\n", long(25)} {
		p := small()
		p.Name = name
		right(t, p, false)
	}
	p := small()
	p.Name = long(24)
	right(t, p, true)
	for _, v := range []api.Version{
		{}, ver("a"), ver("1 "), ver("1-2"), ver("1:2"), ver(strings.Repeat("1", 41)),
		{Epoch: -1, Upstream: "1"}, {Epoch: 1_000_000_000, Upstream: "1"}, {Upstream: "1", Revision: "-"},
	} {
		p := small()
		p.Version = v
		right(t, p, false)
	}
	for _, v := range []api.Version{ver("0"), ver(strings.Repeat("1", 40)), {Epoch: 999_999_999, Upstream: "1:2-3", Revision: "4"}} {
		p := small()
		p.Version = v
		right(t, p, true)
	}
	p = small()
	p.Files = []api.File{{Path: "/"}, {Path: "/", Data: long(10_000)}, {}}
	right(t, p, true)
}

// asking is a package that asks for this, in one of its two ways.
func asking(ahead bool, l [][]api.Term) api.Pack {
	p := small()
	if ahead {
		p.Ahead = l
	} else {
		p.Depends = l
	}
	return p
}

// Promise 4.1: Depends and Ahead are Right, each of them.
func TestRightAsked(t *testing.T) {
	for _, ahead := range []bool{false, true} {
		for _, c := range []struct {
			l    [][]api.Term
			want bool
		}{
			{asks(), true},
			{asks(nil), false},
			{asks(some(anyOf("bb")), some()), false},
			{asks(some(anyOf("b"))), false},
			{asks(some(anyOf("bb"), anyOf("B"))), false},
			{asks(some(anyOf("aa"))), true},
			{asks(some(anyOf("bb"), anyOf("bb"))), true},
			{asks(some(term("bb", api.Any, "1"))), false},
			{asks(some(term("bb", api.Less, "1"), term("cc", api.More, "1"))), true},
			{asks(some(term("bb", 6, "1"))), false},
			{asks(some(term("bb", -1, "1"))), false},
			{asks(some(term("bb", api.Same, "x"))), false},
			{each(names(30)), true},
			{each(names(31)), false},
			{asks(names(30)), true},
			{asks(names(31)), false},
			{asks(names(15), names(16)), false},
		} {
			right(t, asking(ahead, c.l), c.want)
		}
	}
	p := small()
	p.Depends, p.Ahead, p.Against, p.Breaks = each(names(30)), asks(names(30)), names(30), names(30)
	p.Replaces, p.Provides = names(30), names(30)
	right(t, p, true)
}

// lists are the four of a package that have no one of some.
func lists(p *api.Pack) []*[]api.Term {
	return []*[]api.Term{&p.Against, &p.Breaks, &p.Replaces, &p.Provides}
}

// Promise 4.1: Against, Breaks, Replaces, Provides are Right, each of them by itself.
func TestRightLists(t *testing.T) {
	for i := range 4 {
		for _, c := range []struct {
			l    []api.Term
			want bool
		}{
			{some(), true},
			{some(anyOf("aa")), true},
			{some(anyOf("bb"), anyOf("bb")), true},
			{some(anyOf("bb"), anyOf("b")), false},
			{some(anyOf("")), false},
			{some(term("bb", api.Any, "1")), false},
			{some(term("bb", api.Same, "1"), term("bb", api.Same, "2")), true},
			{some(term("bb", api.Same, "x")), false},
			{some(api.Term{Name: "bb", Op: api.Same}), false},
			{names(30), true},
			{names(31), false},
			{names(100_000), false},
		} {
			p := small()
			*lists(&p)[i] = c.l
			right(t, p, c.want)
		}
	}
}

// Promise 4.1: what is provided is of any version, or of the same one, and of no others.
func TestRightProvides(t *testing.T) {
	for op := -3; op < 10; op++ {
		for i := range 4 {
			p := small()
			x := term("bb", op, "1")
			if op == api.Any {
				x = anyOf("bb")
			}
			*lists(&p)[i] = some(anyOf("cc"), x)
			want := api.Any <= op && op <= api.More
			if i == 3 {
				want = op == api.Any || op == api.Same
			}
			right(t, p, want)
		}
	}
	for _, op := range []int{math.MinInt, math.MaxInt} {
		p := small()
		p.Provides = some(term("bb", op, "1"))
		right(t, p, false)
	}
}

// Promise 4.1: Settings and Listens are at most MaxPaths paths each, none of them twice.
func TestRightPaths(t *testing.T) {
	for _, c := range []struct {
		l    []string
		want bool
	}{
		{[]string{}, true},
		{[]string{"a"}, true},
		{[]string{""}, false},
		{[]string{"/a"}, false},
		{[]string{"a", "a/"}, false},
		{[]string{"a,b"}, false},
		{[]string{"a\nb"}, false},
		{[]string{long(60)}, true},
		{[]string{long(61)}, false},
		{[]string{"a", "a"}, false},
		{[]string{"a", "b", "c", "a"}, false},
		{[]string{"b", "a", "a", "c"}, false},
		{[]string{"a", "A", "a/b", "a/B", "b"}, true},
		{paths(20), true},
		{paths(21), false},
		{append(paths(19), "p/0"), false},
		{append(paths(19), "p/18"), false},
		{paths(100_000), false},
	} {
		p, q := small(), small()
		p.Settings, q.Listens = c.l, c.l
		right(t, p, c.want)
		right(t, q, c.want)
	}
	// The two lists are told each by itself.
	p := small()
	p.Settings, p.Listens = paths(20), paths(20)
	right(t, p, true)
}

// Promise 4.2: Fields, in their order.
func TestFields(t *testing.T) {
	if l, err := record.Fields(whole()); !slices.Equal(l, wholeFields()) || err != nil {
		t.Errorf("Fields(%s) = %s, %v, want %s", show(whole()), show(l), err, show(wholeFields()))
	}
	p := whole()
	p.Files = []api.File{{Path: "bin/x", Data: "x"}}
	if l, err := record.Fields(p); !slices.Equal(l, wholeFields()) || err != nil {
		t.Errorf("Fields with files = %s, %v, want %s", show(l), err, show(wholeFields()))
	}
	want := list("Package", "aa", "Version", "1.0")
	if l, err := record.Fields(small()); !slices.Equal(l, want) || err != nil {
		t.Errorf("Fields(%s) = %s, %v, want %s", show(small()), show(l), err, show(want))
	}
}

// parts are the ways to make a package say nothing of something, as the fields stand behind the first two.
var parts = []func(*api.Pack){
	func(p *api.Pack) { p.Depends = nil },
	func(p *api.Pack) { p.Ahead = asks() },
	func(p *api.Pack) { p.Against = nil },
	func(p *api.Pack) { p.Breaks = some() },
	func(p *api.Pack) { p.Replaces = nil },
	func(p *api.Pack) { p.Provides = some() },
	func(p *api.Pack) { p.Settings = nil },
	func(p *api.Pack) { p.Listens = []string{} },
}

// Promise 4.2: what is not said is left out, and nothing else; what is written is read as it was.
func TestFieldsLeftOut(t *testing.T) {
	for mask := range 1 << len(parts) {
		p, want := whole(), wholeFields()[:2]
		for i, drop := range parts {
			if mask>>i&1 == 1 {
				drop(&p)
			} else {
				want = append(want, wholeFields()[2+i])
			}
		}
		l, err := record.Fields(p)
		if !slices.Equal(l, want) || err != nil {
			t.Errorf("Fields(%s) = %s, %v, want %s", show(p), show(l), err, show(want))
		}
		if got, err := record.Read(l); !same(got, p) || err != nil {
			t.Errorf("Read(%s) = %s, %v, want %s", show(l), show(got), err, show(p))
		}
	}
}

// Promise 4.2: ErrLimit, just if the stanza has more than MaxBytes bytes.
func TestFieldsLimit(t *testing.T) {
	p := small()
	for i := range 30 {
		p.Depends = append(p.Depends, some(term(fmt.Sprint(long(22), 10+i), api.AtLeast, strings.Repeat("1", 40))))
	}
	p.Against = p.Depends[0]
	for i := range 20 {
		p.Settings = append(p.Settings, fmt.Sprint(long(50), i))
	}
	for i := range 10 {
		p.Listens = append(p.Listens, fmt.Sprint(long(50), i))
	}
	within, beyond := 0, 0
	for n := 1; n <= 60; n++ {
		for m := 1; m <= 60; m += 59 {
			q := p
			q.Listens = append(slices.Clone(p.Listens), strings.Repeat("y", n), strings.Repeat("z", m))
			// Of a package and a version of two and three bytes, and of how the others are written.
			bytes := len("Package: aa\nVersion: 1.0\n") + len("Depends: \n") + 30*70 + 29*2 + len("Conflicts: \n") + 70
			bytes += len("Conffiles:\n") + 10*(1+51+1) + 10*(1+52+1) + len("Triggers:\n") + 10*(1+51+1) + (1 + n + 1) + (1 + m + 1)
			l, err := record.Fields(q)
			if bytes > 4000 {
				beyond++
				if err != error(api.ErrLimit) || len(l) > 0 {
					t.Errorf("Fields of %d bytes = %d fields, %v, want ErrLimit", bytes, len(l), err)
				}
				continue
			}
			within++
			if s, err2 := stanza.Print(l); len(s) != bytes || err != nil || err2 != nil {
				t.Errorf("Fields of %d bytes = %d bytes, %v, %v", bytes, len(s), err, err2)
			}
		}
	}
	if within == 0 || beyond == 0 {
		t.Errorf("%d are within the bound, %d beyond it", within, beyond)
	}
	p.Ahead, p.Breaks = p.Depends, slices.Concat(p.Depends...)
	if l, err := record.Fields(p); err != error(api.ErrLimit) || len(l) > 0 {
		t.Errorf("Fields of far too many bytes = %d fields, %v", len(l), err)
	}
	// What may not be is told ahead of what is too long.
	p.Listens = []string{""}
	right(t, p, false)
}

// Promises 4.1, 4.2: what is handed in is not written into, nor what stands behind it.
func TestPackStays(t *testing.T) {
	p := whole()
	p.Against, p.Settings, p.Listens = p.Against[:1], p.Settings[:1], p.Listens[:2]
	p.Depends, p.Files = p.Depends[:1], []api.File{{Path: "bin/x"}}
	record.Right(p)
	l, err := record.Fields(p)
	if err != nil {
		t.Fatal(err)
	}
	for i := range l {
		l[i] = api.Field{}
	}
	p.Against, p.Settings, p.Listens, p.Depends, p.Files = p.Against[:2], p.Settings[:2], p.Listens[:3], p.Depends[:2], nil
	if !reflect.DeepEqual(p, whole()) {
		t.Errorf("a package was %s, is %s", show(whole()), show(p))
	}
}
