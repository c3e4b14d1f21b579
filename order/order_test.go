package order_test

import (
	"errors"
	"fmt"
	"math"
	"slices"
	"testing"

	"stevedore/api"
	"stevedore/order"
)

// edges are some: first, then, first, then, ..
func edges(l ...int) []order.Edge {
	var out []order.Edge
	for i := 0; i+1 < len(l); i += 2 {
		out = append(out, order.Edge{First: l[i], Then: l[i+1]})
	}
	return out
}

// sets are lists of numbers.
func sets(l ...[]int) [][]int { return l }

// set is a list of numbers.
func set(l ...int) []int { return l }

// each are all numbers from 0 to below n, in a row.
func each(n int) []int {
	var l []int
	for i := range n {
		l = append(l, i)
	}
	return l
}

// same says whether two lists have the same sets.
func same(a, b [][]int) bool { return slices.EqualFunc(a, b, slices.Equal[[]int]) }

// show is a list of edges as a test tells it: long ones are cut.
func show(l []order.Edge) string { return fmt.Sprintf("%.200s", fmt.Sprint(l[:min(len(l), 100)])) }

// ringsAre tests what Rings answers, without an error.
func ringsAre(t *testing.T, n int, l []order.Edge, want [][]int) {
	t.Helper()
	if got, err := order.Rings(n, l); !same(got, want) || err != nil {
		t.Errorf("Rings(%d, %s) = %v, %v, want %v", n, show(l), got, err, want)
	}
}

// lineIs tests what Line answers, without an error.
func lineIs(t *testing.T, n int, weak, strong []order.Edge, want []int) {
	t.Helper()
	if got, err := order.Line(n, weak, strong); !slices.Equal(got, want) || err != nil {
		t.Errorf("Line(%d, %s, %s) = %v, %v, want %v", n, show(weak), show(strong), got, err, want)
	}
}

// Promise 9.1: who is in one set, and which set comes next.
func TestRings(t *testing.T) {
	for _, c := range []struct {
		n    int
		l    []order.Edge
		want [][]int
	}{
		{0, nil, nil},
		{1, nil, sets(set(0))},
		{1, edges(0, 0), sets(set(0))},
		{3, nil, sets(set(0), set(1), set(2))},
		{2, edges(0, 1), sets(set(0), set(1))},
		{2, edges(1, 0), sets(set(1), set(0))},
		{2, edges(1, 0, 0, 1), sets(set(0, 1))},
		{3, edges(2, 1, 1, 0), sets(set(2), set(1), set(0))},
		{3, edges(2, 0, 1, 1), sets(set(1), set(2), set(0))},
		// A ring of three, told in any order, rises.
		{4, edges(3, 1, 1, 2, 2, 3), sets(set(0), set(1, 2, 3))},
		// A ring is one set by ways of several edges, too.
		{5, edges(4, 3, 3, 2, 2, 1, 1, 0, 0, 4), sets(set(0, 1, 2, 3, 4))},
		// Two rings that share one number are one.
		{5, edges(0, 2, 2, 0, 2, 4, 4, 2), sets(set(0, 2, 4), set(1), set(3))},
		// An edge from one ring to another one makes no one ring of them.
		{4, edges(0, 1, 1, 0, 2, 3, 3, 2, 2, 0), sets(set(2, 3), set(0, 1))},
		// A set waits for an edge to any number of it, not to the least alone.
		{4, edges(0, 2, 2, 0, 3, 2), sets(set(1), set(3), set(0, 2))},
		// What a told set waited for does not come ahead of others: as soon as it may be next, the least is.
		{5, edges(3, 0, 4, 1), sets(set(2), set(3), set(0), set(4), set(1))},
		// The set with the least number is next, though its other numbers are great.
		{5, edges(0, 4, 4, 0, 1, 3, 3, 1), sets(set(0, 4), set(1, 3), set(2))},
		// Edges that are told twice, or from one to itself, say nothing more.
		{3, edges(2, 1, 2, 1, 1, 1, 2, 1, 0, 0), sets(set(0), set(2), set(1))},
	} {
		ringsAre(t, c.n, c.l, c.want)
	}
}

// Promise 9.1: two that cannot be come to from each other are in two sets, though both can be come to from one, or one from both.
func TestRingsOneWay(t *testing.T) {
	ringsAre(t, 4, edges(0, 1, 0, 2, 1, 3, 2, 3), sets(set(0), set(1), set(2), set(3)))
	ringsAre(t, 4, edges(3, 2, 3, 1, 2, 0, 1, 0), sets(set(3), set(1), set(2), set(0)))
}

// Promise 9.2: the example of the document.
func TestLineExample(t *testing.T) {
	lineIs(t, 4, edges(3, 0, 1, 2, 2, 1), edges(2, 1), set(2, 1, 3, 0))
}

// Promise 9.2: set by set, and each one by one.
func TestLine(t *testing.T) {
	for _, c := range []struct {
		n            int
		weak, strong []order.Edge
		want         []int
	}{
		{0, nil, nil, nil},
		{1, edges(0, 0), edges(0, 0), set(0)},
		{3, nil, nil, set(0, 1, 2)},
		// Weak edges and strong ones are as good between sets.
		{2, edges(1, 0), nil, set(1, 0)},
		{2, nil, edges(1, 0), set(1, 0)},
		// A set may be one by weak and strong edges together: then the strong one holds.
		{2, edges(0, 1), edges(1, 0), set(1, 0)},
		{2, edges(1, 0), edges(0, 1), set(0, 1)},
		// Of a set weak edges say nothing.
		{3, edges(2, 1, 1, 0, 0, 2), nil, set(0, 1, 2)},
		// All wait: the least, then whoever does not wait any more.
		{3, nil, edges(2, 1, 1, 0, 0, 2), set(0, 2, 1)},
		{4, nil, edges(0, 1, 1, 0, 2, 3, 3, 2, 1, 2, 2, 1), set(0, 1, 2, 3)},
		// The least of those that do not wait, though others wait for a greater one.
		{4, edges(0, 1, 1, 2, 2, 3, 3, 0), edges(3, 0), set(1, 2, 3, 0)},
		{4, edges(0, 1, 1, 2, 2, 3, 3, 0), edges(2, 0, 3, 1), set(2, 0, 3, 1)},
		// None waits for itself.
		{3, edges(0, 1, 1, 2, 2, 0), edges(0, 0, 1, 1), set(0, 1, 2)},
		// None waits for another set: that stands ahead already, or does not count.
		{4, edges(1, 2, 2, 1, 3, 1), edges(3, 2), set(0, 3, 1, 2)},
		{4, edges(0, 1, 1, 0, 0, 3), edges(1, 2), set(0, 1, 2, 3)},
		// A way of strong edges through another one of the set is none, when that is told.
		{4, nil, edges(0, 1, 1, 0, 1, 2, 2, 3, 3, 1), set(0, 1, 2, 3)},
	} {
		lineIs(t, c.n, c.weak, c.strong, c.want)
	}
}

// wrongNumbers are none of so many.
func wrongNumbers(n int) []int {
	return []int{math.MinInt, math.MinInt32, -n - 1, -1, n, n + 1, api.MaxPacks, 64, 256, 1 << 32, math.MaxInt}
}

// fails tests an error, with its place (below 0: it is an Errno alone), and that there is no other answer.
func fails(t *testing.T, what string, empty bool, err error, want api.Errno, place int) {
	t.Helper()
	if !empty {
		t.Errorf("%s: there is an answer beside the error", what)
	}
	var at *api.At
	has := errors.As(err, &at)
	switch {
	case api.Tell(err) != want || has != (place >= 0):
		t.Errorf("%s: %v (with a place: %v), want %v", what, err, has, want)
	case has && (at.Place != place || at.Err != want):
		t.Errorf("%s: %v at %d, want %v at %d", what, at.Err, at.Place, want, place)
	}
}

// ringsFail tests an error of Rings, and that it is Line's of the weak edges (whatever the strong ones are) and of the strong ones.
func ringsFail(t *testing.T, n int, l []order.Edge, want api.Errno, place int) {
	t.Helper()
	r, err := order.Rings(n, l)
	fails(t, "Rings", r == nil, err, want, place)
	for _, strong := range [][]order.Edge{nil, edges(0, 0), edges(-1, 0), edges(0, 0, 0, 0, 0, math.MaxInt)} {
		line, err := order.Line(n, l, strong)
		fails(t, "Line, weak", line == nil, err, want, place)
	}
	line, err := order.Line(n, nil, l)
	fails(t, "Line, strong", line == nil, err, want, place)
}

// Promises 9.1, 9.2: how many there may be; that is told ahead of edges.
func TestLimit(t *testing.T) {
	for _, n := range []int{math.MinInt, math.MinInt32, -41, -2, -1, api.MaxPacks + 1, 64, 65, 256, 1 << 32, math.MaxInt} {
		for _, l := range [][]order.Edge{nil, edges(0, 0), edges(0, 1, 1, 0), edges(-1, 0), edges(0, math.MaxInt)} {
			ringsFail(t, n, l, api.ErrLimit, -1)
		}
	}
	for n := range api.MaxPacks + 1 {
		var want [][]int
		for i := range n {
			want = append(want, set(i))
		}
		ringsAre(t, n, nil, want)
		lineIs(t, n, nil, nil, each(n))
	}
}

// Promises 9.1, 9.2: an edge with a number that is none, by either end, and the first one of several.
func TestRange(t *testing.T) {
	for _, n := range []int{0, 1, 2, 7, api.MaxPacks - 1, api.MaxPacks} {
		for _, wrong := range wrongNumbers(n) {
			if 0 <= wrong && wrong < n {
				continue
			}
			for _, bad := range []order.Edge{{First: wrong, Then: 0}, {First: 0, Then: wrong}, {First: wrong, Then: wrong}} {
				ringsFail(t, n, []order.Edge{bad}, api.ErrRange, 0)
				if n == 0 {
					continue
				}
				l := append(edges(0, n-1, n-1, 0, 0, 0), bad)
				ringsFail(t, n, l, api.ErrRange, 3)
				ringsFail(t, n, append(l, edges(0, 0, -1, -1, 0, n)...), api.ErrRange, 3)
			}
		}
	}
	ringsFail(t, 0, edges(0, 0), api.ErrRange, 0)
}

// Promise 9.2: what is wrong with weak edges is told ahead of what is wrong with strong ones, wherever these stand.
func TestWeakFirst(t *testing.T) {
	l, err := order.Line(3, edges(0, 1, 1, 2, 3, 0), edges(-1, 0))
	fails(t, "both", l == nil, err, api.ErrRange, 2)
	l, err = order.Line(3, edges(0, 1, 1, 2, 2, 0), edges(0, 1, 0, 3))
	fails(t, "strong", l == nil, err, api.ErrRange, 1)
}
