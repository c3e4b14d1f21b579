package depend_test

import (
	"fmt"
	"slices"
	"testing"

	"stevedore/api"
	"stevedore/depend"
	"stevedore/version"
)

// offer is a package of a version without an epoch and a revision.
func offer(name, upstream string, provides ...api.Term) depend.Offer {
	return depend.Offer{Name: name, Version: ver(0, upstream, ""), Provides: provides}
}

// Promise 3.3: Meets.
func TestMeets(t *testing.T) {
	for _, c := range []struct {
		o    depend.Offer
		x    api.Term
		want bool
	}{
		{offer("aa", "1.0"), anyOf("aa"), true},
		{offer("aa", "1.0"), anyOf("bb"), false},
		{offer("aa", "1.0"), anyOf("a"), false},
		{offer("aa", "1.0"), anyOf("aaa"), false},
		{offer("aa", "1.0"), anyOf("AA"), false},
		{offer("aa", "1.10"), term("aa", api.AtLeast, "1.9"), true},
		{offer("aa", "1.0~a"), term("aa", api.AtLeast, "1.0"), false},
		{offer("aa", "1.0"), term("aa", api.Same, "1.00"), true},
		{offer("aa", "1.0"), term("bb", api.AtLeast, "0"), false},
		{offer("aa", "1.0"), term("aa", 6, "1.0"), false},
		{offer("aa", "1.0"), term("aa", -1, "1.0"), false},
		{offer("aa", "1.0"), term("aa", api.Any, "2.0"), true},

		{offer("aa", "1.0", anyOf("bb")), anyOf("bb"), true},
		{offer("aa", "1.0", anyOf("bb")), anyOf("aa"), true},
		{offer("aa", "1.0", anyOf("bb")), anyOf("cc"), false},
		{offer("aa", "1.0", anyOf("bb"), anyOf("cc")), anyOf("cc"), true},
		{offer("aa", "1.0", term("bb", api.Same, "9")), anyOf("bb"), true},
		{offer("aa", "1.0", term("bb", api.Less, "9")), anyOf("bb"), true},
		{offer("aa", "1.0", term("bb", 77, "9")), anyOf("bb"), true},

		// Without a version that is told by Same, none is provided: not the package's own, either.
		{offer("aa", "1.0", anyOf("bb")), term("bb", api.Same, "1.0"), false},
		{offer("aa", "1.0", anyOf("bb")), term("bb", api.AtLeast, "0"), false},
		{offer("aa", "1.0", term("bb", api.Any, "2.0")), term("bb", api.Same, "2.0"), false},
		{offer("aa", "1.0", term("bb", api.AtMost, "2.0")), term("bb", api.AtMost, "2.0"), false},
		{offer("aa", "1.0", term("bb", api.AtLeast, "2.0")), term("bb", api.AtLeast, "1.0"), false},
		{offer("aa", "1.0", term("bb", api.Same, "2.0")), term("bb", api.Same, "1.0"), false},
		{offer("aa", "1.0", term("bb", api.Same, "2.0")), term("bb", api.Same, "2.0"), true},
		{offer("aa", "1.0", term("bb", api.Same, "2.0")), term("bb", 6, "2.0"), false},
		{offer("aa", "1.0", term("bb", api.Same, "2.0")), term("aa", api.Same, "2.0"), false},

		// It may provide more of its own name, and one name more than once.
		{offer("aa", "1.0", term("aa", api.Same, "2.0")), term("aa", api.Same, "2.0"), true},
		{offer("aa", "1.0", term("aa", api.Same, "2.0")), term("aa", api.Same, "1.0"), true},
		{offer("aa", "1.0", anyOf("aa")), term("aa", api.Same, "2.0"), false},
		{offer("aa", "1.0", anyOf("bb"), term("bb", api.Same, "2.0")), term("bb", api.Same, "2.0"), true},
		{offer("aa", "1.0", term("bb", api.Same, "1.0"), term("bb", api.Same, "2.0")), term("bb", api.More, "1.0"), true},

		{offer("", ""), anyOf(""), true},
		{depend.Offer{}, api.Term{Name: "aa"}, false},
	} {
		if got := depend.Meets(c.o, c.x); got != c.want {
			t.Errorf("Meets(%s, %s) = %v, want %v", show(c.o), show(c.x), got, c.want)
		}
	}
}

// Promise 3.3: Meets, by the name and by what is provided, is as the version is.
func TestMeetsVersions(t *testing.T) {
	versions := []api.Version{ver(0, "1.0~a", ""), ver(0, "1.0", ""), ver(0, "1.00", ""), ver(0, "1.0", "2"), ver(0, "1.9", ""), ver(0, "1.10", ""), ver(1, "0", "")}
	for _, a := range versions {
		for _, b := range versions {
			for op := range 8 {
				x := api.Term{Name: "aa", Op: op, Version: b}
				want := version.Is(a, op, b)
				if got := depend.Meets(depend.Offer{Name: "aa", Version: a}, x); got != want {
					t.Errorf("Meets(aa %s, %s) = %v, want %v", show(a), show(x), got, want)
				}
				o := depend.Offer{Name: "bb", Version: b, Provides: some(api.Term{Name: "aa", Op: api.Same, Version: a})}
				if got := depend.Meets(o, x); got != want {
					t.Errorf("Meets(%s, %s) = %v, want %v", show(o), show(x), got, want)
				}
			}
		}
	}
}

// Promise 3.3: Met, and the first one that is not.
func TestMet(t *testing.T) {
	aa, bb, cc, dd := anyOf("aa"), anyOf("bb"), anyOf("cc"), anyOf("dd")
	offers := []depend.Offer{offer("bb", "1.0", cc), offer("ee", "2.0", term("ff", api.Same, "3.0"))}
	for _, c := range []struct {
		l      [][]api.Term
		offers []depend.Offer
		want   int
		ok     bool
	}{
		{nil, nil, 0, true},
		{asks(), offers, 0, true},
		{asks(some(aa)), nil, 0, false},
		{asks(nil), offers, 0, false},
		{asks(some(bb), some()), offers, 1, false},
		{asks(some(term("aa", api.AtLeast, "1.0"), bb), some(cc)), offers, 0, true},
		{asks(some(bb), some(anyOf("ee")), some(term("ff", api.More, "2.0"))), offers, 0, true},
		{asks(some(aa), some(bb)), offers, 0, false},
		{asks(some(bb), some(aa)), offers, 1, false},
		{asks(some(bb), some(cc), some(aa), some(dd)), offers, 2, false},
		{asks(some(aa, dd), some(bb)), offers, 0, false},
		{asks(some(aa, dd, bb), some(aa, dd), some(aa)), offers, 1, false},
		{asks(some(bb, aa), some(aa, bb), some(cc)), offers, 0, true},
		{asks(some(bb), some(cc), some(term("bb", api.More, "1.0"))), offers, 2, false},
		{asks(some(term("cc", api.Same, "1.0"))), offers, 0, false},
		{asks(some(bb)), offers[1:], 0, false},
		{asks(some(anyOf("ee"))), offers[:1], 0, false},
		{asks(some(term("bb", api.More, "1.0"))), []depend.Offer{offer("bb", "1.0"), offer("bb", "2.0")}, 0, true},
	} {
		if got, ok := depend.Met(c.l, c.offers); got != c.want || ok != c.ok {
			t.Errorf("Met(%s, %s) = %d, %v, want %d, %v", show(c.l), show(c.offers), got, ok, c.want, c.ok)
		}
	}
	l, err := depend.Terms("aa (>= 1.0) | bb, cc")
	if got, ok := depend.Met(l, offers[:1]); err != nil || got != 0 || !ok {
		t.Errorf("a bb that provides cc is asked for, and Met tells %d, %v (%v)", got, ok, err)
	}
}

// Promise 3.3: more offers meet more, in whatever line they stand; Met is Meets of one of each.
func TestMetMore(t *testing.T) {
	terms := some(anyOf("aa"), anyOf("bb"), term("aa", api.More, "1"), term("bb", api.AtMost, "1"))
	all := []depend.Offer{offer("aa", "1"), offer("bb", "2", term("aa", api.Same, "2")), offer("cc", "1", anyOf("aa"), term("bb", api.Same, "1"))}
	for set := range 1 << len(all) {
		var offers []depend.Offer
		for i, o := range all {
			if set>>i&1 == 1 {
				offers = append(offers, o)
			}
		}
		for i, x := range terms {
			for j, y := range terms {
				meets := func(z api.Term) bool {
					return slices.ContainsFunc(offers, func(o depend.Offer) bool { return depend.Meets(o, z) })
				}
				l := asks(some(x, y), some(x), some(y))
				want, ok := 0, meets(x) && meets(y)
				if !meets(x) && meets(y) {
					want = 1
				} else if meets(x) && !meets(y) {
					want = 2
				}
				what := fmt.Sprint("terms ", i, j, " of the offers ", set)
				if got, is := depend.Met(l, offers); got != want || is != ok {
					t.Errorf("%s: Met tells %d, %v, want %d, %v", what, got, is, want, ok)
				}
				turned := slices.Clone(offers)
				slices.Reverse(turned)
				if got, is := depend.Met(l, turned); got != want || is != ok {
					t.Errorf("%s, turned round: Met tells %d, %v, want %d, %v", what, got, is, want, ok)
				}
				if _, is := depend.Met(l, append(turned, offer("dd", "1"))); ok && !is {
					t.Errorf("%s: one offer more, and it is not met any more", what)
				}
			}
		}
	}
}

// Promise 3.3: what is handed in is not written into, nor what stands behind it.
func TestOffersStay(t *testing.T) {
	provides := some(anyOf("cc"), term("bb", api.Same, "1"), anyOf("zz"))
	offers := []depend.Offer{offer("bb", "1", provides[:2]...), offer("aa", "2"), offer("zz", "3")}
	l := asks(some(anyOf("bb"), anyOf("aa")), some(anyOf("cc")), some(anyOf("no")), some(anyOf("zz")))
	wasProvides, wasLists := slices.Clone(provides), copied(l)
	for n := range offers {
		depend.Met(l[:n], offers[:n])
		depend.Meets(offers[n], anyOf("zz"))
	}
	names := ""
	for _, o := range offers {
		names += o.Name
	}
	if !slices.Equal(provides, wasProvides) || !same(l, wasLists) || names != "bbaazz" || len(offers[0].Provides) != 2 {
		t.Errorf("what was handed in changed: %s, %s", show(l), show(offers))
	}
}
