package check_test

import (
	"fmt"
	"slices"
	"testing"

	"stevedore/api"
	"stevedore/check"
)

// roomy is a copy of a list with room behind it, in which something stands, and all of that.
func roomy[T any](l []T, behind T) (short, whole []T) {
	whole = append(slices.Clone(l), behind, behind)
	return whole[:len(l)], whole
}

// P4: no list is written into, nor what stands behind its length; nor is that read.
func TestHandedIn(t *testing.T) {
	zz, aa := asks("zz")[0], asks("aa")[0]
	k := works("bb", "depends aa", "ahead aa", "against zz", "breaks zz", "provides vv")
	var wholes []any
	keep := func(x any) { wholes = append(wholes, x) }
	group := func(l *[][]api.Term) {
		short, whole := roomy(*l, zz)
		*l = short
		keep(whole)
	}
	terms := func(l *[]api.Term) {
		short, whole := roomy(*l, aa[0])
		*l = short
		keep(whole)
	}
	group(&k.Pack.Depends)
	group(&k.Pack.Ahead)
	terms(&k.Pack.Against)
	terms(&k.Pack.Breaks)
	terms(&k.Pack.Provides)
	l, whole := roomy(known(works("aa"), k, opened("cc", "depends dd"), opened("dd")), opened("ee", "against ff"))
	keep(whole)
	with, all := roomy(set(3), 0)
	keep(all)
	was := fmt.Sprintf("%v", wholes)
	p := k.Pack
	p.Name = "ff"
	for range 2 {
		tells(t, "Unpack", check.Unpack(l, p), api.OK, -1)
		tells(t, "Configure", check.Configure(l, 2, with), api.OK, -1)
		tells(t, "Configure without it", check.Configure(l, 2, with[:0]), api.ErrMissing, 0)
		needs(t, l, 0, 1)
		line(t, l, 3, 2)
	}
	if is := fmt.Sprintf("%v", wholes); is != was {
		t.Errorf("what was handed in is %s, was %s", is, was)
	}
}

// spoil writes into a list, and behind its length.
func spoil(l []int) {
	l = l[:cap(l)]
	for i := range l {
		l[i] = -7
	}
}

// P4: what comes out is the caller's: what is done with it is seen in no later answer, nor in what was handed in.
func TestHandedOut(t *testing.T) {
	l := known(works("aa"), works("bb", "depends aa"), opened("cc", "depends dd"), opened("dd"), works("ee", "ahead bb"))
	was := fmt.Sprint(l)
	for range 3 {
		needs(t, l, 0, 1, 4)
		line(t, l, 3, 2)
		spoil(check.Needs(l, 0))
		spoil(check.Line(l))
	}
	if is := fmt.Sprint(l); is != was {
		t.Errorf("what was handed in is %s, was %s", is, was)
	}
}

// P1: whatever it is given, each call ends, and none panics.
func TestWhatever(t *testing.T) {
	var none check.Known
	odd := check.Known{Pack: api.Pack{Depends: [][]api.Term{nil, {}}, Ahead: [][]api.Term{{{}}}, Against: []api.Term{{Op: -1}}, Provides: []api.Term{{}}}}
	for _, s := range states {
		odd.Status.State = s
		for _, l := range [][]check.Known{nil, known(none), known(odd), known(odd, none, odd)} {
			check.Unpack(l, api.Pack{})
			check.Unpack(l, odd.Pack)
			for which := -1; which < 4; which++ {
				check.Configure(l, which, set(-1, 0, 1, 2, 3))
				check.Needs(l, which)
			}
			check.Line(l)
		}
	}
}

// P1: many packages, many that are about to, many terms.
func TestMany(t *testing.T) {
	l := slices.Repeat(known(works("bb", "breaks zz", "against zz")), 100_000)
	p := pack("aa", "ahead bb", "against yy", "breaks xx")
	tells(t, "many are known", check.Unpack(l, p), api.OK, -1)
	tells(t, "the last one", check.Unpack(append(l, works("xx")), p), api.ErrOrder, len(l))
	with := slices.Repeat(set(0, -1, 1<<40), 300_000)
	l = append(l, opened("cc", "depends bb, dd"), opened("dd"))
	tells(t, "many are about to", check.Configure(l, 100_000, with), api.ErrMissing, 1)
	tells(t, "the last one of them", check.Configure(l, 100_000, append(with, 100_001)), api.OK, -1)
	k := opened("aa")
	k.Pack.Depends = slices.Repeat(asks("zz | yy"), 100_000)
	k.Pack.Depends = append(k.Pack.Depends, asks("bb")...)
	line(t, known(k, opened("bb")), 1, 0)
}
