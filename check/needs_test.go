package check_test

import (
	"fmt"
	"math"
	"slices"
	"testing"

	"stevedore/api"
	"stevedore/check"
)

// needs tests Needs.
func needs(t *testing.T, l []check.Known, which int, want ...int) {
	t.Helper()
	if got := check.Needs(l, which); !slices.Equal(got, want) {
		t.Errorf("Needs(%s, %d) = %v, want %v", show(l), which, got, want)
	}
}

// Promise 11.2: who would miss one.
func TestNeeds(t *testing.T) {
	for _, c := range []struct {
		what string
		l    []check.Known
		want [][]int // of each by itself
	}{
		{"nobody asks", known(works("aa"), works("bb")), [][]int{nil, nil}},
		{"one depends", known(works("aa"), works("bb", "depends aa")), [][]int{{1}, nil}},
		{"of ahead", known(works("aa", "ahead bb"), works("bb")), [][]int{nil, {0}}},
		{"a row", known(works("aa", "depends bb"), works("bb", "ahead cc"), works("cc"), works("dd", "depends aa")),
			[][]int{{3}, {0, 3}, {0, 1, 3}, nil}},
		{"a ring", known(works("aa", "depends bb"), works("bb", "depends cc"), works("cc", "depends aa")),
			[][]int{{1, 2}, {0, 2}, {0, 1}}},
		{"itself", known(works("aa", "depends aa"), works("bb")), [][]int{nil, nil}},
		{"its own name is enough", known(works("aa"), works("bb", "depends aa | bb")), [][]int{nil, nil}},
		{"one of two", known(works("aa"), works("bb"), works("cc", "depends aa | bb")), [][]int{nil, nil, nil}},
		{"one of two, of which one goes, too", known(works("aa"), works("bb", "depends aa"), works("cc", "depends bb | aa")),
			[][]int{{1, 2}, nil, nil}},
		{"the same, told ahead", known(works("cc", "depends bb | aa"), works("bb", "depends aa"), works("aa")),
			[][]int{nil, nil, {0, 1}}},
		{"what two provide", known(works("aa", "provides vv"), works("bb", "provides vv"), works("cc", "depends vv")),
			[][]int{nil, nil, nil}},
		{"what one provides", known(works("aa", "provides vv (= 2)"), works("bb", "provides vv"), works("cc", "depends vv (>= 1)")),
			[][]int{{2}, nil, nil}},
		{"a version", known(works("aa=2.0"), works("bb", "depends aa (>= 2.0)"), works("cc", "depends aa (<< 2.0)")),
			[][]int{{1}, nil, nil}},
		{"who misses something already", known(works("aa"), works("bb", "depends aa, zz"), works("cc", "depends bb")),
			[][]int{nil, {2}, nil}},
		{"who misses something ahead already", known(works("aa"), works("bb", "depends aa", "ahead zz")), [][]int{nil, nil}},
		{"who misses something, and something ahead", known(works("aa"), works("bb", "depends zz", "ahead aa")), [][]int{nil, nil}},
		{"both together", known(works("aa"), works("bb"), works("cc", "depends aa", "ahead bb")), [][]int{{2}, {2}, nil}},
		{"other words ask for nothing", known(works("aa"), works("bb", "against aa", "breaks aa", "provides aa")), [][]int{nil, nil}},
	} {
		for which, want := range c.want {
			needs(t, c.l, which, want...)
		}
	}
}

// Promise 11.2: who works, of those that are missed, that miss, and that are in the place.
func TestNeedsStates(t *testing.T) {
	for _, s := range states {
		for _, c := range []struct {
			l             []check.Known
			does, doesNot []int // what is told, if it works, or not
		}{
			{known(stands(s, "aa"), works("bb", "depends aa")), set(1), nil},
			{known(works("aa"), stands(s, "bb", "depends aa"), works("cc", "depends bb")), set(1, 2), nil},
			{known(works("aa"), stands(s, "bb"), works("cc", "depends aa | bb")), nil, set(2)},
			{known(held(works("aa")), held(stands(s, "bb", "depends aa"))), set(1), nil},
		} {
			want := c.doesNot
			if slices.Contains(working, s) {
				want = c.does
			}
			needs(t, c.l, 0, want...)
		}
	}
}

// Promise 11.2: nothing, if there is no such one.
func TestNeedsRange(t *testing.T) {
	l := known(works("aa"), works("bb", "depends aa"))
	for _, which := range []int{-1, 2, 1 << 32, math.MinInt, math.MaxInt} {
		needs(t, l, which)
	}
	needs(t, nil, 0)
	needs(t, l[:1], 1)
	needs(t, l[:1], 0)
}

// Promise 11.2, P1: long rows, forth and back, and many that ask for one.
func TestNeedsMany(t *testing.T) {
	const n = 1500
	name := func(i int) string { return fmt.Sprint("n", 10_000+i) }
	forth, back, star := known(works(name(0))), known(), known(works(name(0)))
	var all []int
	for i := range n {
		all = append(all, i)
		back = append(back, works(name(i), "depends "+name(i+1)))
		if i > 0 {
			forth = append(forth, works(name(i), "depends "+name(i-1)))
			star = append(star, works(name(i), "depends "+name(0)))
		}
	}
	back[n-1].Pack.Depends = nil
	needs(t, forth, 0, all[1:]...)
	needs(t, forth, n-1)
	needs(t, back, n-1, all[:n-1]...)
	needs(t, star, 0, all[1:]...)
	needs(t, star, 7)
}

// Promise 11.2: who is left misses nothing that it did not miss before.
func TestNeedsLeft(t *testing.T) {
	d := die(4)
	for range 3000 {
		l := d.known(9)
		if len(l) == 0 {
			continue
		}
		which := d.below(len(l))
		goes := append(check.Needs(l, which), which)
		left := slices.Clone(l)
		for _, i := range goes {
			left[i].Status.State = api.None
		}
		for i, k := range left {
			if worksByWords(k) && metByWords(l, worksByWords, together(k)) && !metByWords(left, worksByWords, together(k)) {
				t.Fatalf("%s: %d misses something behind %v", show(l), i, goes)
			}
		}
	}
}
