package record_test

import (
	"reflect"
	"slices"
	"strings"
	"testing"

	"stevedore/api"
	"stevedore/record"
)

// reads tests Read: of an error nothing but it is told.
func reads(t *testing.T, l []api.Field, want api.Pack, err error) {
	t.Helper()
	if err != nil {
		want = api.Pack{}
	}
	if got, e := record.Read(l); e != err || !same(got, want) {
		t.Errorf("Read(%s) = %s, %v, want %s, %v", show(l), show(got), e, show(want), err)
	}
}

// with are the fields of a small package, and others behind them.
func with(l ...string) []api.Field {
	return append(list("Package", "aa", "Version", "1.0"), list(l...)...)
}

// Promise 4.2: Read.
func TestRead(t *testing.T) {
	reads(t, with(), small(), nil)
	reads(t, wholeFields(), whole(), nil)
	turned := wholeFields()
	slices.Reverse(turned)
	reads(t, turned, whole(), nil)

	p := small()
	p.Version = api.Version{Epoch: 2, Upstream: "1-2", Revision: "3"}
	reads(t, list("Version", "2:1-2-3", "Package", "aa"), p, nil)
}

// Promise 4.2: names are told as stanza's Get tells them: in small letters, and of several the first one.
func TestReadNames(t *testing.T) {
	l := wholeFields()
	for i := range l {
		l[i].Name = strings.ToLower(l[i].Name)
	}
	reads(t, l, whole(), nil)
	for i := range l {
		l[i].Name = strings.ToUpper(l[i].Name)
	}
	reads(t, l, whole(), nil)
	reads(t, append(wholeFields(), with("depends", "a", "PROVIDES", "a", "Triggers", "a")...), whole(), nil)
}

// Promise 4.2: other fields are nothing, whatever they are.
func TestReadOthers(t *testing.T) {
	reads(t, with("X", "y", "", "", ":", "\x00", "Depend", "a", "Depends ", "a", "PreDepends", "a", "Ahead", "a", "Files", "a", "Settings", "a"), small(), nil)
	var many []api.Field
	for range 100 {
		many = append(many, api.Field{Name: "Other", Value: long(100)})
	}
	reads(t, append(many, with()...), small(), nil)
}

// Promise 4.2: ErrMissing, unless there are both a Package and a Version, whatever else is wrong.
func TestReadMissing(t *testing.T) {
	for _, l := range [][]api.Field{
		nil,
		{},
		list("Package", "aa"),
		list("Version", "1.0"),
		list("Package", "aa", "Package", "bb"),
		list("Package", "a", "Depends", "a"),
		list("Version", "x", "Conffiles", "a"),
		list("Packages", "aa", "Version", "1.0"),
		list("Package", "aa", "Versio", "1.0"),
		list("Depends", "aa"),
		wholeFields()[1:],
		slices.Delete(wholeFields(), 1, 2),
		wholeFields()[2:],
	} {
		reads(t, l, api.Pack{}, api.ErrMissing)
	}
}

// Promise 4.2: what is there and says nothing is nothing, but of Package, Version, Conffiles and Triggers.
func TestReadEmpty(t *testing.T) {
	for _, s := range []string{"", " ", "\n", " \t\n "} {
		reads(t, with("Depends", s, "Pre-Depends", s, "Conflicts", s, "Breaks", s, "Replaces", s, "Provides", s), small(), nil)
	}
	reads(t, list("Package", "", "Version", "1.0"), api.Pack{}, api.ErrArg)
	reads(t, list("Package", "aa", "Version", ""), api.Pack{}, api.ErrForm)
	reads(t, with("Conffiles", ""), api.Pack{}, api.ErrForm)
	reads(t, with("Triggers", ""), api.Pack{}, api.ErrForm)
}

// Promise 4.2: Terms' errors, and List's.
func TestReadAsked(t *testing.T) {
	many := func(n int, between string) string { return strings.Repeat("bb"+between, n-1) + "bb" }
	for _, c := range []struct {
		s           string
		terms, list error
	}{
		{"bb", nil, nil},
		{"bb, cc (= 1)", nil, nil},
		{" bb(= 1 ) ,\n\tcc ", nil, nil},
		{"bb | cc", nil, api.ErrForm},
		{"bb,", api.ErrForm, api.ErrForm},
		{"b", api.ErrForm, api.ErrForm},
		{"bb (1)", api.ErrForm, api.ErrForm},
		{"bb (= 0:1)", api.ErrForm, api.ErrForm},
		{"bb cc", api.ErrForm, api.ErrForm},
		{many(30, ", "), nil, nil},
		{many(30, "|"), nil, api.ErrForm},
		{many(31, ", "), api.ErrLimit, api.ErrLimit},
		{many(31, "|"), api.ErrLimit, api.ErrLimit},
		{many(30, "|") + ", b", api.ErrForm, api.ErrForm},
		{"b, " + many(31, ","), api.ErrForm, api.ErrForm},
	} {
		for i, name := range []string{"Depends", "Pre-Depends", "Conflicts", "Breaks", "Replaces", "Provides"} {
			want := c.terms
			if i > 1 {
				want = c.list
			}
			if _, err := record.Read(with(name, c.s)); err != want {
				t.Errorf("Read of %s: %s = %v, want %v", name, show(c.s), err, want)
			}
		}
	}
}

// Promise 4.2: ErrForm, if there is no empty line and another one; ErrArg, if those are not paths.
func TestReadPaths(t *testing.T) {
	for _, c := range []struct {
		s    string
		want []string
		err  error
	}{
		{"\na", []string{"a"}, nil},
		{"\nb\na/b", []string{"b", "a/b"}, nil},
		{"\n" + strings.Join(paths(20), "\n"), paths(20), nil},
		{"", nil, api.ErrForm},
		{"a", nil, api.ErrForm},
		{"a\nb", nil, api.ErrForm},
		{"a\n", nil, api.ErrForm},
		{" ", nil, api.ErrForm},
		{" \na", nil, api.ErrForm},
		{"\t\na", nil, api.ErrForm},
		{"/\n/", nil, api.ErrForm},
		{"\n", nil, api.ErrArg},
		{"\n\n", nil, api.ErrArg},
		{"\n\na", nil, api.ErrArg},
		{"\na\n", nil, api.ErrArg},
		{"\na\n\nb", nil, api.ErrArg},
		{"\n a", nil, api.ErrArg},
		{"\na ", nil, api.ErrArg},
		{"\na b", nil, api.ErrArg},
		{"\na,b", nil, api.ErrArg},
		{"\n/a", nil, api.ErrArg},
		{"\na//b", nil, api.ErrArg},
		{"\na\na", nil, api.ErrArg},
		{"\n" + long(61), nil, api.ErrArg},
		{"\n" + strings.Join(paths(21), "\n"), nil, api.ErrArg},
		{"\n" + strings.Join(paths(22), "\n"), nil, api.ErrArg},
		{strings.Repeat("\na", 1_000_000), nil, api.ErrArg},
	} {
		p, q := small(), small()
		p.Settings, q.Listens = c.want, c.want
		reads(t, with("Conffiles", c.s), p, c.err)
		reads(t, with("Triggers", c.s), q, c.err)
	}
	p := small()
	p.Settings, p.Listens = []string{"a"}, []string{"a"}
	reads(t, with("Triggers", "\na", "Conffiles", "\na"), p, nil)
}

// Promise 4.2: ErrArg, unless it is Right, though all is read.
func TestReadWrong(t *testing.T) {
	for _, l := range [][]api.Field{
		list("Package", "a", "Version", "1.0"),
		list("Package", " aa", "Version", "1.0"),
		list("Package", "aa\n", "Version", "1.0"),
		list("Package", "AA", "Version", "1.0"),
		list("Package", long(25), "Version", "1.0"),
		with("Provides", "bb (<< 1)"),
		with("Provides", "bb (<= 1)"),
		with("Provides", "bb, cc (>= 1)"),
		with("Provides", "bb (>> 1), cc"),
	} {
		reads(t, l, api.Pack{}, api.ErrArg)
	}
	for _, s := range []string{"x", " 1.0", "1.0 ", "1.0\n", "\n1.0", "1:", "-1", "1.0-", strings.Repeat("1", 41)} {
		reads(t, list("Package", "aa", "Version", s), api.Pack{}, api.ErrForm)
	}
}

// Promise 4.2: of several errors the one told first is answered, however the fields stand.
func TestReadFirst(t *testing.T) {
	over := strings.Repeat("bb,", 30) + "bb"
	// In the order in which they are told: of each two the first one's error is answered.
	order := []string{"Version", "Depends", "Pre-Depends", "Conflicts", "Breaks", "Replaces", "Provides", "Conffiles", "Triggers", "Package"}
	wrong := func(name string, limit bool) (api.Field, error) {
		switch {
		case name == "Package":
			return api.Field{Name: name, Value: "a"}, api.ErrArg
		case limit && name != "Version" && name != "Conffiles" && name != "Triggers":
			return api.Field{Name: name, Value: over}, api.ErrLimit
		}
		return api.Field{Name: name, Value: "?"}, api.ErrForm
	}
	for i, first := range order {
		for _, later := range order[i+1:] {
			for _, limit := range []bool{false, true} {
				a, want := wrong(first, limit)
				b, _ := wrong(later, !limit)
				l := []api.Field{b, a}
				reads(t, append(slices.Clone(l), with()...), api.Pack{}, want)
				slices.Reverse(l)
				reads(t, append(slices.Clone(l), with()...), api.Pack{}, want)
			}
		}
	}
}

// Promise 4.2: what is handed in stays, and no two lists of what is read share memory.
func TestReadApart(t *testing.T) {
	l := append(wholeFields(), api.Field{Name: "Behind", Value: "x"})
	p, err := record.Read(l[:10])
	if err != nil || !reflect.DeepEqual(l[:10], wholeFields()) || l[10].Name != "Behind" {
		t.Fatalf("Read made %s of its fields, %v", show(l), err)
	}
	q, _ := record.Read(l[:10])
	x := anyOf("changed")
	for _, list := range append(append(asks(p.Against, p.Breaks, p.Replaces, p.Provides), p.Depends...), p.Ahead...) {
		_ = append(list, x, x, x)
	}
	_, _ = append(p.Settings, "changed", "changed"), append(p.Listens, "changed", "changed")
	if !same(p, whole()) {
		t.Errorf("a list changed with another one: %s", show(p))
	}
	p.Settings[0], p.Listens[0], p.Depends[0][0], p.Against[0] = "changed", "changed", x, x
	if !same(q, whole()) {
		t.Errorf("an answer changed with another one: %s", show(q))
	}
}
