package depend_test

import (
	"fmt"
	"math"
	"slices"
	"strings"
	"testing"

	"stevedore/api"
	"stevedore/depend"
)

// ops are the signs of what may be asked of a version, and the Op of each.
var ops = []struct {
	sign string
	op   int
}{
	{"<<", api.Less}, {"<=", api.AtMost}, {"=", api.Same}, {">=", api.AtLeast}, {">>", api.More},
}

// ver is a version of its three parts.
func ver(epoch int, upstream, revision string) api.Version {
	return api.Version{Epoch: epoch, Upstream: upstream, Revision: revision}
}

// anyOf is a term that asks for any version.
func anyOf(name string) api.Term { return api.Term{Name: name} }

// term is one that asks for a version without an epoch and a revision.
func term(name string, op int, upstream string) api.Term {
	return api.Term{Name: name, Op: op, Version: ver(0, upstream, "")}
}

// asks is what is asked for, each: one of some.
func asks(l ...[]api.Term) [][]api.Term { return l }

// some are terms, one of which is asked for.
func some(l ...api.Term) []api.Term { return l }

// numbered is so many terms, each by itself.
func numbered(n int) [][]api.Term {
	var out [][]api.Term
	for i := range n {
		out = append(out, some(anyOf(fmt.Sprint("n", i))))
	}
	return out
}

// copied is what is asked for, in memory of its own.
func copied(l [][]api.Term) [][]api.Term {
	var out [][]api.Term
	for _, x := range l {
		out = append(out, slices.Clone(x))
	}
	return out
}

// same says whether the same is asked for.
func same(a, b [][]api.Term) bool { return slices.EqualFunc(a, b, slices.Equal) }

// show is something as a test tells it: it is cut if it is long.
func show(x any) string { return fmt.Sprintf("%.300s", fmt.Sprintf("%+q", x)) }

// long is a text of so many letters.
func long(n int) string { return strings.Repeat("x", n) }

// Promise 3.1: Name is 2 to MaxName bytes.
func TestNameLong(t *testing.T) {
	for n := range 60 {
		if got, want := depend.Name(long(n)), 2 <= n && n <= 24; got != want {
			t.Errorf("Name of %d letters = %v, want %v", n, got, want)
		}
	}
	if depend.Name(long(1_000_000)) {
		t.Error("Name of a million letters = true")
	}
}

// Promise 3.1: of all bytes just those that are named may stand in a name, not all of them first.
func TestNameBytes(t *testing.T) {
	const first = "abcdefghijklmnopqrstuvwxyz0123456789"
	for c := range 256 {
		s := string([]byte{byte(c)})
		head, tail := strings.Contains(first, s), strings.Contains(first+"+-.", s)
		for _, x := range []struct {
			name string
			want bool
		}{
			{s + "a", head}, {s + "+", head}, {s + s, head}, {s, false},
			{"a" + s, tail}, {"0" + s, tail}, {"a" + s + "a", tail}, {"ab" + s, tail}, {long(23) + s, tail},
		} {
			if got := depend.Name(x.name); got != x.want {
				t.Errorf("Name(%q) = %v, want %v", x.name, got, x.want)
			}
		}
	}
	for _, s := range []string{"", "Aa", "aA", "aé", "éa", "a a", " aa", "aa ", "aa\n", "++", "--", "..", "-a", "+a", ".a"} {
		if depend.Name(s) {
			t.Errorf("Name(%q) = true", s)
		}
	}
	for _, s := range []string{"aa", "00", "a+", "a-", "a.", "0+-.", "x+y", "virtual", "lib-x.2+b"} {
		if !depend.Name(s) {
			t.Errorf("Name(%q) = false", s)
		}
	}
}

// right tests Right, and that Print writes just what is Right.
func right(t *testing.T, l [][]api.Term, want bool) {
	t.Helper()
	if got := depend.Right(l); got != want {
		t.Errorf("Right(%s) = %v, want %v", show(l), got, want)
	}
	s, err := depend.Print(l)
	if want && (err != nil || (s == "") != (len(l) == 0)) {
		t.Errorf("Print(%s) = %s, %v, want it written", show(l), show(s), err)
	}
	if !want && (err != error(api.ErrArg) || s != "") {
		t.Errorf("Print(%s) = %s, %v, want ErrArg", show(l), show(s), err)
	}
}

// Promise 3.2: there is a term at least in each, and there are at most MaxTerms in all.
func TestRightMany(t *testing.T) {
	right(t, nil, true)
	right(t, asks(), true)
	right(t, asks(nil), false)
	right(t, asks(some()), false)
	right(t, asks(some(anyOf("aa")), nil), false)
	right(t, asks(nil, some(anyOf("aa"))), false)
	right(t, asks(some(anyOf("aa")), some(), some(anyOf("aa"))), false)
	right(t, numbered(1), true)
	right(t, numbered(30), true)
	right(t, numbered(31), false)
	right(t, append(numbered(30), nil), false)
	right(t, numbered(100_000), false)
	one := slices.Concat(numbered(31)...)
	right(t, asks(one[:30]), true)
	right(t, asks(one), false)
	right(t, asks(one[:15], one[:15]), true)
	right(t, asks(one[:15], one[:16]), false)
	right(t, asks(one[:30], one[:1]), false)
	right(t, asks(one[:1], one[:30]), false)
}

// Promise 3.2: each term is right, wherever it stands.
func TestRightTerms(t *testing.T) {
	for _, c := range []struct {
		x    api.Term
		want bool
	}{
		{anyOf("aa"), true},
		{anyOf(long(24)), true},
		{anyOf(""), false},
		{anyOf("a"), false},
		{anyOf("Aa"), false},
		{anyOf("aa "), false},
		{anyOf(long(25)), false},

		{term("aa", api.Any, "1"), false},
		{api.Term{Name: "aa", Version: ver(1, "", "")}, false},
		{api.Term{Name: "aa", Version: ver(0, "", "1")}, false},

		{term("aa", api.Less, "1"), true},
		{term("aa", api.AtMost, "1"), true},
		{term("aa", api.Same, "1"), true},
		{term("aa", api.AtLeast, "1"), true},
		{term("aa", api.More, "1"), true},
		{term("a", api.More, "1"), false},
		{api.Term{Name: "aa", Op: api.Same, Version: ver(3, "1:2-3", "4")}, true},

		{term("aa", 6, "1"), false},
		{term("aa", -1, "1"), false},
		{term("aa", math.MaxInt, "1"), false},
		{term("aa", math.MinInt, "1"), false},
		{api.Term{Name: "aa", Op: 6}, false},
		{api.Term{Name: "aa", Op: -1}, false},

		{term("aa", api.Same, ""), false},
		{term("aa", api.More, "a"), false},
		{term("aa", api.More, "1 "), false},
		{term("aa", api.More, "1)"), false},
		{term("aa", api.Less, strings.Repeat("1", 40)), true},
		{term("aa", api.Less, strings.Repeat("1", 41)), false},
		{api.Term{Name: "aa", Op: api.Same, Version: ver(-1, "1", "")}, false},
	} {
		ok := anyOf("bb")
		right(t, asks(some(c.x)), c.want)
		right(t, asks(some(ok, c.x)), c.want)
		right(t, asks(some(c.x, ok), some(ok)), c.want)
		right(t, asks(some(ok), some(ok), some(ok, c.x)), c.want)
	}
}

// Promises 3.1, 3.2: Print, byte by byte.
func TestPrint(t *testing.T) {
	for _, c := range []struct {
		l    [][]api.Term
		want string
	}{
		{nil, ""},
		{asks(some(anyOf("aa"))), "aa"},
		{asks(some(anyOf("aa")), some(anyOf("bb"))), "aa, bb"},
		{asks(some(anyOf("aa"), anyOf("bb"))), "aa | bb"},
		{asks(some(term("aa", api.AtLeast, "1.0"), anyOf("bb")), some(anyOf("cc"))), "aa (>= 1.0) | bb, cc"},
		{asks(some(anyOf("aa")), some(anyOf("bb"), anyOf("cc"), anyOf("aa")), some(anyOf("aa"))), "aa, bb | cc | aa, aa"},
		{asks(some(api.Term{Name: "x+y", Op: api.Same, Version: ver(3, "1:2-3", "4")})), "x+y (= 3:1:2-3-4)"},
	} {
		if got, err := depend.Print(c.l); got != c.want || err != nil {
			t.Errorf("Print(%s) = %q, %v, want %q", show(c.l), got, err, c.want)
		}
	}
	for _, x := range ops {
		want := "aa (" + x.sign + " 1.0)"
		if got, err := depend.Print(asks(some(term("aa", x.op, "1.0")))); got != want || err != nil {
			t.Errorf("Print of Op %d = %q, %v, want %q", x.op, got, err, want)
		}
	}
}

// Promise 3.2: Singles is each by itself, whatever it is.
func TestSingles(t *testing.T) {
	one, two := term("aa", api.Less, "1"), api.Term{Name: "", Op: 99, Version: ver(-1, " ", "")}
	for _, c := range []struct {
		l    []api.Term
		want [][]api.Term
	}{
		{nil, nil},
		{some(), nil},
		{some(one), asks(some(one))},
		{some(two, one, two), asks(some(two), some(one), some(two))},
	} {
		if got := depend.Singles(c.l); !same(got, c.want) {
			t.Errorf("Singles(%s) = %s, want %s", show(c.l), show(got), show(c.want))
		}
	}
	if got := depend.Singles(make([]api.Term, 100_000)); len(got) != 100_000 {
		t.Errorf("Singles of 100,000 terms are %d", len(got))
	}
}

// Promise 3.2: what is handed in is not written into, nor what stands behind it, also not by who makes a single longer.
func TestTermsStay(t *testing.T) {
	l := some(anyOf("aa"), term("bb", api.More, "1"), anyOf("cc"), anyOf("C"))
	was := slices.Clone(l)
	groups := asks(l[:1], l[1:2], l[2:3], nil)
	wasGroups := copied(groups)
	for n := range groups {
		depend.Right(groups[:n])
		depend.Print(groups[:n])
	}
	for n := range l {
		for _, x := range depend.Singles(l[:n]) {
			longer := append(x, anyOf("changed"))
			longer[0].Name = "changed"
		}
	}
	if !slices.Equal(l, was) || !same(groups, wasGroups) {
		t.Errorf("terms were %s, are %s", show(was), show(l))
	}
}
