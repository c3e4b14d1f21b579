package check_test

import (
	"fmt"
	"slices"
	"testing"

	"stevedore/api"
	"stevedore/check"
)

// line tests Line.
func line(t *testing.T, l []check.Known, want ...int) {
	t.Helper()
	if got := check.Line(l); !slices.Equal(got, want) {
		t.Errorf("Line(%s) = %v, want %v", show(l), got, want)
	}
}

// Promise 11.3: each stands behind what it asks for.
func TestLine(t *testing.T) {
	for _, c := range []struct {
		what string
		l    []check.Known
		want []int
	}{
		{"none", nil, nil},
		{"one", known(opened("aa")), set(0)},
		{"as they are", known(opened("cc"), opened("aa"), opened("bb")), set(0, 1, 2)},
		{"one depends", known(opened("aa", "depends bb"), opened("bb")), set(1, 0)},
		{"of ahead", known(opened("aa", "ahead bb"), opened("bb")), set(1, 0)},
		{"a row", known(opened("aa", "depends bb"), opened("bb", "ahead cc"), opened("cc")), set(2, 1, 0)},
		{"each of some", known(opened("aa", "depends zz | bb | cc"), opened("bb"), opened("cc")), set(1, 2, 0)},
		{"what one provides", known(opened("aa", "depends vv"), opened("bb", "provides vv")), set(1, 0)},
		{"a version", known(opened("aa", "depends bb (>= 2)"), opened("bb=2.0")), set(1, 0)},
		{"another version", known(opened("aa", "depends bb (<< 2)"), opened("bb=2.0")), set(0, 1)},
		{"itself", known(opened("aa", "depends aa", "ahead aa"), opened("bb")), set(0, 1)},
		{"a ring of weak ones", known(opened("aa", "depends bb"), opened("bb", "depends aa")), set(0, 1)},
		{"a ring with a strong one", known(opened("aa", "ahead bb"), opened("bb", "depends aa")), set(1, 0)},
		{"a ring with another strong one", known(opened("aa", "depends bb"), opened("bb", "ahead aa")), set(0, 1)},
		{"a ring of strong ones", known(opened("aa", "ahead bb"), opened("bb", "ahead aa")), set(0, 1)},
		{"the document's example", known(opened("aa", "depends dd"), opened("bb", "depends cc", "ahead cc"), opened("cc", "depends bb"), opened("dd")),
			set(2, 1, 3, 0)},
		{"other words ask for nothing", known(opened("aa", "against bb", "breaks bb", "provides bb"), opened("bb")), set(0, 1)},
		{"what is nowhere", known(opened("aa", "depends zz", "ahead zz"), opened("bb", "depends zz")), set(0, 1)},
	} {
		line(t, c.l, c.want...)
	}
}

// Promise 11.3: those that may start alone, as numbers of all; by others nothing comes ahead.
func TestLineStates(t *testing.T) {
	for _, s := range states {
		between := known(stands(s, "aa"), opened("bb", "depends cc"), stands(s, "cc", "depends dd"), stands(s, "dd", "provides bb"), stands(api.HalfDone, "ee", "ahead bb"))
		want := set(1, 4)
		if slices.Contains(starting, s) {
			want = set(0, 3, 2, 1, 4)
		}
		line(t, between, want...)
	}
	line(t, known(works("aa"), works("bb")))
	line(t, known(works("aa"), held(opened("bb", "depends cc")), works("zz"), held(opened("cc"))), 3, 1)
}

// Promise 11.3: MaxPacks may stand in line, and no more; others do not count.
func TestLineMany(t *testing.T) {
	name := func(i int) string { return fmt.Sprint("n", 100+i) }
	var l []check.Known
	var back []int
	for i := range 40 {
		l = append(l, works(name(200+i)), opened(name(i), "depends "+name(i+1)))
		back = append(back, 79-2*i)
	}
	line(t, l, back...)
	line(t, append(slices.Clone(l), works("aa")), back...)
	line(t, append(slices.Clone(l), opened("aa")))
	line(t, append(known(stands(api.HalfDone, "aa")), l...))
	line(t, slices.Repeat(known(opened("aa", "depends aa")), 100_000))
}
