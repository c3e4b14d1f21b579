package check_test

import (
	"fmt"
	"slices"
	"testing"

	"stevedore/api"
	"stevedore/check"
	"stevedore/order"
	"stevedore/status"
	"stevedore/version"
)

// meetsByWords says whether a package meets a term, by the words of the document.
func meetsByWords(p api.Pack, t api.Term) bool {
	meets := p.Name == t.Name && version.Is(p.Version, t.Op, t.Version)
	for _, x := range p.Provides {
		meets = meets || x.Name == t.Name && (t.Op == api.Any || x.Op == api.Same && version.Is(x.Version, t.Op, t.Version))
	}
	return meets
}

// meetsSome says whether a package meets one of the terms.
func meetsSome(p api.Pack, l []api.Term) bool {
	meets := false
	for _, t := range l {
		meets = meets || meetsByWords(p, t)
	}
	return meets
}

// worksByWords says whether a package works.
func worksByWords(k check.Known) bool { return slices.Contains(working, k.Status.State) }

// startsByWords says whether a package may start.
func startsByWords(k check.Known) bool { return slices.Contains(starting, k.Status.State) }

// unmet is the first that is asked for, and not met by those that count; -1: none.
func unmet(l []check.Known, counts func(check.Known) bool, asks [][]api.Term) int {
	for i, some := range asks {
		there := false
		for _, k := range l {
			there = there || counts(k) && meetsSome(k.Pack, some)
		}
		if !there {
			return i
		}
	}
	return -1
}

// metByWords says whether all that is asked for is met by those that count.
func metByWords(l []check.Known, counts func(check.Known) bool, asks [][]api.Term) bool {
	return unmet(l, counts, asks) < 0
}

// together is what a package depends on, and what must be done ahead.
func together(k check.Known) [][]api.Term { return slices.Concat(k.Pack.Depends, k.Pack.Ahead) }

// unpackByWords is what Unpack tells, and where (-1: nowhere).
func unpackByWords(l []check.Known, p api.Pack) (api.Errno, int) {
	for _, k := range l {
		if k.Pack.Name == p.Name && k.Status.Held {
			return api.ErrState, -1
		}
	}
	if i := unmet(l, func(k check.Known) bool { return worksByWords(k) && k.Pack.Name != p.Name }, p.Ahead); i >= 0 {
		return api.ErrMissing, i
	}
	for i, k := range l {
		if s := k.Status.State; s == api.None || s == api.Config || k.Pack.Name == p.Name {
			continue
		}
		if meetsSome(k.Pack, p.Against) || meetsSome(p, k.Pack.Against) {
			return api.ErrFalse, i
		}
		if worksByWords(k) && (meetsSome(k.Pack, p.Breaks) || meetsSome(p, k.Pack.Breaks)) {
			return api.ErrOrder, i
		}
	}
	return api.OK, -1
}

// configureByWords is what Configure tells, and where (-1: nowhere).
func configureByWords(l []check.Known, which int, with []int) (api.Errno, int) {
	if which < 0 || which >= len(l) {
		return api.ErrRange, -1
	}
	if !startsByWords(l[which]) {
		return api.ErrState, -1
	}
	var there []check.Known
	for i, k := range l {
		if worksByWords(k) || startsByWords(k) && slices.Contains(with, i) {
			there = append(there, k)
		}
	}
	if i := unmet(there, func(check.Known) bool { return true }, l[which].Pack.Depends); i >= 0 {
		return api.ErrMissing, i
	}
	return api.OK, -1
}

// needsByWords is what Needs tells: one by one, the first one each time.
func needsByWords(l []check.Known, which int) []int {
	if which < 0 || which >= len(l) {
		return nil
	}
	among := set(which)
	for {
		var left []check.Known
		for i, k := range l {
			if worksByWords(k) && !slices.Contains(among, i) {
				left = append(left, k)
			}
		}
		next := -1
		for i := len(l) - 1; i >= 0; i-- {
			asks := together(l[i])
			if worksByWords(l[i]) && !slices.Contains(among, i) && metByWords(l, worksByWords, asks) && !metByWords(left, worksByWords, asks) {
				next = i
			}
		}
		if next < 0 {
			break
		}
		among = append(among, next)
	}
	slices.Sort(among)
	return slices.DeleteFunc(among, func(i int) bool { return i == which })
}

// lineByWords is what Line tells.
func lineByWords(t *testing.T, l []check.Known) []int {
	var starts []int
	for i, k := range l {
		if startsByWords(k) {
			starts = append(starts, i)
		}
	}
	var weak, strong []order.Edge
	for a, i := range starts {
		for b, j := range starts {
			if meetsSome(l[i].Pack, slices.Concat(l[j].Pack.Depends...)) {
				weak = append(weak, order.Edge{First: a, Then: b})
			}
			if meetsSome(l[i].Pack, slices.Concat(l[j].Pack.Ahead...)) {
				strong = append(strong, order.Edge{First: a, Then: b})
			}
		}
	}
	numbers, err := order.Line(len(starts), weak, strong)
	if err != nil {
		t.Fatal(err)
	}
	var out []int
	for _, n := range numbers {
		out = append(out, starts[n])
	}
	return out
}

// die is numbers that look drawn, the same each time.
type die uint64

// below is the next one, below a number.
func (d *die) below(n int) int {
	*d = *d*6364136223846793005 + 1442695040888963407
	return int(uint64(*d>>33) % uint64(n))
}

// version is one of few.
func (d *die) version() api.Version { return ver([]string{"1", "2", "2.0~a", "1:0"}[d.below(4)]) }

// term is one that is asked for, of n names and one that is provided; few are of a kind that may not be.
func (d *die) term(n int) api.Term {
	t := api.Term{Name: fmt.Sprint("n", d.below(n))}
	if d.below(4) == 0 {
		t.Name = "virtual"
	}
	if d.below(3) == 0 {
		t.Op, t.Version = d.below(7), d.version()
	}
	return t
}

// terms are at most so many.
func (d *die) terms(n, most int) []api.Term {
	var l []api.Term
	for range d.below(most + 1) {
		l = append(l, d.term(n))
	}
	return l
}

// asks is what is asked for; few are one of none.
func (d *die) asks(n int) [][]api.Term {
	var l [][]api.Term
	for range max(0, d.below(5)-2) {
		some := append(d.terms(n, 2), d.term(n))
		if d.below(40) == 0 {
			some = nil
		}
		l = append(l, some)
	}
	return l
}

// pack is a package of that number.
func (d *die) pack(i, n int) api.Pack {
	p := api.Pack{Name: fmt.Sprint("n", i), Version: d.version(), Depends: d.asks(n)}
	if d.below(3) == 0 {
		p.Ahead = d.asks(n)
	}
	if d.below(6) == 0 {
		p.Against, p.Breaks = d.terms(n, 1), d.terms(n, 1)
	}
	if d.below(6) == 0 {
		p.Breaks = d.terms(n, 2)
	}
	for range max(0, d.below(5)-2) {
		p.Provides = append(p.Provides, api.Term{Name: []string{"virtual", fmt.Sprint("n", d.below(n))}[d.below(2)], Op: d.below(2) * api.Same, Version: d.version()})
	}
	return p
}

// known are packages, at most so many: some of them all work, some may all start.
func (d *die) known(most int) []check.Known {
	var l []check.Known
	n := 1 + d.below(most)
	few := d.below(3)
	for i := range n {
		s := states[d.below(len(states))]
		switch {
		case few == 1 && d.below(8) > 0:
			s = working[d.below(3)]
		case few == 2 && d.below(8) > 0:
			s = starting[d.below(2)]
		}
		p := d.pack(i, n)
		if d.below(10) > 0 {
			l = append(l, check.Known{Status: status.Status{State: s, Version: p.Version, Held: d.below(12) == 0}, Pack: p})
		}
	}
	return l
}

// Promises 11.1 to 11.3: many packages, of all kinds, held against the words of the document.
func TestByWords(t *testing.T) {
	d := die(11)
	seen := map[string]int{}
	for range 20_000 {
		l := d.known(8)
		all := show(l)
		p := d.pack(d.below(10), 9)
		e, place := unpackByWords(l, p)
		tells(t, "Unpack "+all+show(p), check.Unpack(l, p), e, place)
		seen[fmt.Sprint("Unpack ", int(e))]++
		with := set(d.below(12)-2, d.below(12)-2, d.below(12)-2)[:d.below(4)]
		for which := -1; which <= len(l); which++ {
			e, place := configureByWords(l, which, with)
			tells(t, fmt.Sprint("Configure ", all, which, with), check.Configure(l, which, with), e, place)
			seen[fmt.Sprint("Configure ", int(e))]++
			want := needsByWords(l, which)
			needs(t, l, which, want...)
			seen[fmt.Sprint("Needs ", len(want))]++
		}
		want := lineByWords(t, l)
		line(t, l, want...)
		if !slices.IsSorted(want) {
			seen["Line"]++
		}
		if t.Failed() {
			return
		}
	}
	for _, s := range []string{"Unpack 0", "Unpack 6", "Unpack 7", "Unpack 10", "Unpack 13", "Configure 0", "Configure 2", "Configure 6", "Configure 7",
		"Needs 0", "Needs 1", "Needs 2", "Needs 3", "Needs 4", "Line"} {
		if seen[s] < 20 {
			t.Errorf("%s came up %d times of %v", s, seen[s], seen)
		}
	}
}
