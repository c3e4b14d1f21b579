package check_test

import (
	"errors"
	"fmt"
	"math"
	"slices"
	"strings"
	"testing"

	"stevedore/api"
	"stevedore/check"
	"stevedore/depend"
	"stevedore/status"
	"stevedore/version"
)

// states are all, and some numbers that are none.
var states = []int{
	api.None, api.Config, api.Half, api.Unpacked, api.HalfDone, api.Awaited, api.Pending, api.Installed,
	-1, 8, 99, math.MinInt, math.MaxInt,
}

// working are the states of packages that work.
var working = []int{api.Awaited, api.Pending, api.Installed}

// starting are the states of packages that may start.
var starting = []int{api.Unpacked, api.HalfDone}

// ver is a version.
func ver(s string) api.Version {
	v, err := version.Parse(s)
	if err != nil {
		panic(s)
	}
	return v
}

// asks is what is asked for.
func asks(s string) [][]api.Term {
	l, err := depend.Terms(s)
	if err != nil {
		panic(s)
	}
	return l
}

// pack is a package: its name (and, behind =, its version; else it is 1.0), and what it says, each a word and terms.
func pack(name string, says ...string) api.Pack {
	name, v, ok := strings.Cut(name, "=")
	if !ok {
		v = "1.0"
	}
	p := api.Pack{Name: name, Version: ver(v)}
	for _, s := range says {
		word, rest, _ := strings.Cut(s, " ")
		l := asks(rest)
		switch word {
		case "depends":
			p.Depends = l
		case "ahead":
			p.Ahead = l
		case "against":
			p.Against = slices.Concat(l...)
		case "breaks":
			p.Breaks = slices.Concat(l...)
		case "provides":
			p.Provides = slices.Concat(l...)
		default:
			panic(word)
		}
	}
	return p
}

// stands is a package that is known, in a state.
func stands(state int, name string, says ...string) check.Known {
	p := pack(name, says...)
	return check.Known{Status: status.Status{State: state, Version: p.Version}, Pack: p}
}

// works is a package that is installed.
func works(name string, says ...string) check.Known { return stands(api.Installed, name, says...) }

// opened is a package that is unpacked.
func opened(name string, says ...string) check.Known { return stands(api.Unpacked, name, says...) }

// held is a package that is held.
func held(k check.Known) check.Known {
	k.Status.Held = true
	return k
}

// known are packages.
func known(l ...check.Known) []check.Known { return l }

// set are numbers.
func set(l ...int) []int { return l }

// show is something as a test tells it: it is cut if it is long.
func show(x any) string { return fmt.Sprintf("%.700s", fmt.Sprintf("%v", x)) }

// tells tests an error: an Errno, at a place (-1: at none).
func tells(t *testing.T, what string, err error, want api.Errno, place int) {
	t.Helper()
	got, at := api.Tell(err), -1
	var a *api.At
	if errors.As(err, &a) {
		at = a.Place
	}
	if got != want || at != place || (err == nil) != (want == api.OK) {
		t.Errorf("%s: error %d at %d (%v), want error %d at %d", what, got, at, err, want, place)
	}
}

// Promise 11.1: one of its name that is held is told ahead of all else, however it stands.
func TestUnpackHeld(t *testing.T) {
	bad := pack("aa", "ahead zz", "against bb", "breaks bb")
	for _, s := range states {
		l := known(works("bb"), held(stands(s, "aa")))
		tells(t, fmt.Sprint("held in ", s), check.Unpack(l, pack("aa=2.0")), api.ErrState, -1)
		tells(t, fmt.Sprint("held in ", s, ", and more"), check.Unpack(l, bad), api.ErrState, -1)
		l[1].Status.Held = false
		tells(t, fmt.Sprint("not held in ", s), check.Unpack(l, pack("aa=2.0")), api.OK, -1)
	}
	tells(t, "another one is held", check.Unpack(known(held(works("bb")), works("aa")), pack("aa")), api.OK, -1)
	tells(t, "one that provides it is held", check.Unpack(known(held(works("bb", "provides aa"))), pack("aa")), api.OK, -1)
	tells(t, "nobody is known", check.Unpack(nil, pack("aa")), api.OK, -1)
	tells(t, "nothing", check.Unpack(nil, api.Pack{}), api.OK, -1)
}

// Promise 11.1: what must be done ahead is met by those that work, by their names, versions and what they provide.
func TestUnpackAhead(t *testing.T) {
	l := known(works("bb=2.0", "provides vv, ww (= 3)"), stands(api.Pending, "cc"), stands(api.Awaited, "dd"), opened("ee"))
	for _, c := range []struct {
		ahead string
		place int
	}{
		{"", -1},
		{"bb", -1},
		{"bb, cc, dd", -1},
		{"ee", 0},
		{"bb, ee", 1},
		{"ee | bb", -1},
		{"cc, dd, zz, ee", 2},
		{"bb (>= 2.0), vv", -1},
		{"bb (>> 2.0)", 0},
		{"vv, vv (= 2.0)", 1},
		{"ww (<< 4), ww (>= 3), ww (= 2.0)", 2},
		{"aa", 0},
		{"bb, cc, dd, aa | zz | ee", 3},
	} {
		wrong := api.OK
		if c.place >= 0 {
			wrong = api.ErrMissing
		}
		tells(t, c.ahead, check.Unpack(l, pack("aa", "ahead "+c.ahead)), wrong, c.place)
	}
	tells(t, "nobody is known", check.Unpack(nil, pack("aa", "ahead bb")), api.ErrMissing, 0)
	tells(t, "it provides it itself", check.Unpack(l, pack("aa", "ahead bb, vv, yy", "provides yy")), api.ErrMissing, 2)
	empty := pack("aa", "ahead bb")
	empty.Ahead = append(empty.Ahead, nil)
	tells(t, "one of none", check.Unpack(l, empty), api.ErrMissing, 1)
	tells(t, "what it depends on is not asked for", check.Unpack(nil, pack("aa", "depends zz")), api.OK, -1)
}

// Promise 11.1: who works, and that one of its own name does not count.
func TestUnpackAheadStates(t *testing.T) {
	for _, s := range states {
		wrong, place := api.ErrMissing, 0
		if slices.Contains(working, s) {
			wrong, place = api.OK, -1
		}
		l := known(stands(s, "bb", "provides vv"))
		tells(t, fmt.Sprint("bb in ", s), check.Unpack(l, pack("aa", "ahead bb")), wrong, place)
		tells(t, fmt.Sprint("vv in ", s), check.Unpack(l, pack("aa", "ahead vv")), wrong, place)
		tells(t, fmt.Sprint("its own, in ", s), check.Unpack(l, pack("bb=2.0", "ahead bb")), api.ErrMissing, 0)
		tells(t, fmt.Sprint("its own provides, in ", s), check.Unpack(l, pack("bb=2.0", "ahead vv")), api.ErrMissing, 0)
	}
}

// Promise 11.1: who is against whom, either way, but for those that have no files; and who breaks whom, of those that work.
func TestUnpackBeside(t *testing.T) {
	for _, s := range states {
		against, breaks := api.ErrFalse, api.OK
		if s == api.None || s == api.Config {
			against = api.OK
		}
		if slices.Contains(working, s) {
			breaks = api.ErrOrder
		}
		for _, c := range []struct{ comes, there string }{
			{"bb", ""}, {"zz, bb (= 1.0)", ""}, {"vv", ""}, {"vv (= 7)", ""},
			{"", "aa"}, {"", "zz, aa (>= 2.0)"}, {"", "ww"}, {"", "ww (<< 9)"}, {"bb, vv", "aa, ww"},
		} {
			for _, x := range []struct {
				word string
				want api.Errno
			}{{"against ", against}, {"breaks ", breaks}} {
				l := known(works("cc"), stands(s, "bb", "provides vv (= 7)", x.word+c.there), works("dd"))
				place := 1
				if x.want == api.OK {
					place = -1
				}
				p := pack("aa=2.0", "provides ww (= 8)", x.word+c.comes)
				tells(t, fmt.Sprint(x.word, c, " in ", s), check.Unpack(l, p), x.want, place)
			}
		}
	}
}

// Promise 11.1: whom nobody meets may stand beside.
func TestUnpackBesideUnmet(t *testing.T) {
	for _, word := range []string{"against ", "breaks "} {
		for _, c := range []struct{ comes, there string }{
			{"bb (>> 1.0)", ""}, {"vv (= 1.0)", ""}, {"zz", ""}, {"", "aa (<< 2.0)"}, {"", "ww (= 2.0)"}, {"", "zz"},
			{"aa", "bb"}, {"ww", "vv"},
		} {
			l := known(works("bb", "provides vv (= 7)", word+c.there))
			tells(t, fmt.Sprint(word, c), check.Unpack(l, pack("aa=2.0", "provides ww (= 8)", word+c.comes)), api.OK, -1)
		}
		// One of its own name goes as it comes, whatever both say of it.
		l := known(works("aa", "provides vv", word+"aa, ww"))
		tells(t, word+"its own", check.Unpack(l, pack("aa=2.0", "provides ww", word+"aa, vv")), api.OK, -1)
	}
}

// Promise 11.1, P3: which error is told first.
func TestUnpackFirst(t *testing.T) {
	p := pack("aa", "against ff", "breaks bb")
	tells(t, "what is missing comes first", check.Unpack(known(works("ff")), pack("aa", "ahead zz", "against ff")), api.ErrMissing, 0)
	tells(t, "Breaks of the first", check.Unpack(known(works("cc"), works("bb"), works("ff")), p), api.ErrOrder, 1)
	tells(t, "Against of the first", check.Unpack(known(works("ff"), works("bb")), p), api.ErrFalse, 0)
	tells(t, "both of one", check.Unpack(known(works("cc"), works("bb", "provides ff")), p), api.ErrFalse, 1)
	tells(t, "one breaks, the other way round is against", check.Unpack(known(works("bb", "against aa")), p), api.ErrFalse, 0)
	tells(t, "Breaks of one that does not work", check.Unpack(known(opened("bb"), works("ff")), p), api.ErrFalse, 1)
	tells(t, "those without files are left out", check.Unpack(known(stands(api.Config, "ff"), works("aa"), works("bb")), p), api.ErrOrder, 2)
}

// Promise 11.2: which is one of those that are known.
func TestConfigureRange(t *testing.T) {
	l := known(opened("aa"), works("bb"))
	for _, which := range []int{-1, 2, 3, 1 << 32, math.MinInt, math.MaxInt} {
		tells(t, fmt.Sprint(which), check.Configure(l, which, set(0, 1)), api.ErrRange, -1)
	}
	tells(t, "of none", check.Configure(nil, 0, set(0)), api.ErrRange, -1)
	tells(t, "behind its length", check.Configure(l[:1], 1, nil), api.ErrRange, -1)
}

// Promise 11.2: in which states it may start; that is told ahead of what is missing.
func TestConfigureState(t *testing.T) {
	for _, s := range states {
		wrong, missing, place := api.ErrState, api.ErrState, -1
		if slices.Contains(starting, s) {
			wrong, missing, place = api.OK, api.ErrMissing, 0
		}
		tells(t, fmt.Sprint("in ", s), check.Configure(known(stands(s, "aa")), 0, nil), wrong, -1)
		tells(t, fmt.Sprint("in ", s, ", what is missing"), check.Configure(known(stands(s, "aa", "depends bb")), 0, nil), missing, place)
		tells(t, fmt.Sprint("in ", s, ", held"), check.Configure(known(held(stands(s, "aa"))), 0, nil), wrong, -1)
	}
}

// Promise 11.2: what it depends on is met by those that work, and those that are about to.
func TestConfigureDepends(t *testing.T) {
	others := known(works("bb=2.0", "provides vv"), opened("cc", "depends zz"), stands(api.HalfDone, "dd", "provides ww (= 3)"), stands(api.Half, "ee"), stands(api.Config, "ff"))
	for _, c := range []struct {
		depends string
		with    []int
		place   int
	}{
		{"", nil, -1},
		{"bb", nil, -1},
		{"bb, vv", nil, -1},
		{"bb (= 1.0)", nil, 0},
		{"bb, cc", nil, 1},
		{"bb, cc", set(2), 1},
		{"bb, cc", set(1), -1},
		{"cc, dd", set(1), 1},
		{"cc, dd", set(2), 0},
		{"cc, dd, bb", set(2, 1), -1},
		{"ww (>= 3)", set(1, 2, 2, 2), -1},
		{"ww (>> 3)", set(1, 2), 0},
		{"cc | dd, vv, zz", set(2), 2},
		{"bb, ee", set(3), 1},
		{"bb, ff", set(0, 1, 2, 3, 4), 1},
		{"cc", set(-1, 6, math.MinInt, math.MaxInt), 0},
		{"cc", set(-1, 6, math.MaxInt, 1), -1},
		// Itself is no other than all others: it counts, if it is among them.
		{"aa", nil, 0},
		{"aa", set(5), -1},
		{"bb, aa (>> 1.0)", set(5), 1},
	} {
		wrong := api.OK
		if c.place >= 0 {
			wrong = api.ErrMissing
		}
		l := append(slices.Clone(others), opened("aa", "depends "+c.depends))
		tells(t, fmt.Sprint(c.depends, " with ", c.with), check.Configure(l, 5, c.with), wrong, c.place)
	}
	ahead := opened("aa", "ahead zz", "against bb", "breaks bb")
	tells(t, "no more than Depends is asked", check.Configure(append(others, ahead), 5, nil), api.OK, -1)
	empty := opened("aa", "depends bb, vv")
	empty.Pack.Depends[1] = nil
	tells(t, "one of none", check.Configure(append(others, empty), 5, nil), api.ErrMissing, 1)
}

// Promise 11.2: who counts, in which state, with and without being about to.
func TestConfigureStates(t *testing.T) {
	for _, s := range states {
		l := known(opened("aa", "depends bb"), stands(s, "bb"))
		alone, with := api.ErrMissing, api.ErrMissing
		if slices.Contains(working, s) {
			alone, with = api.OK, api.OK
		}
		if slices.Contains(starting, s) {
			with = api.OK
		}
		at := map[api.Errno]int{api.OK: -1, api.ErrMissing: 0}
		tells(t, fmt.Sprint("bb in ", s), check.Configure(l, 0, set(0)), alone, at[alone])
		tells(t, fmt.Sprint("with bb in ", s), check.Configure(l, 0, set(1)), with, at[with])
	}
}
