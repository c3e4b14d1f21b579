package order_test

import (
	"slices"
	"testing"

	"stevedore/api"
	"stevedore/order"
)

// roomy is a copy of some edges with room behind them, in which others stand, and all of that.
func roomy(l []order.Edge) (short, whole []order.Edge) {
	whole = append(slices.Clone(l), edges(7, 7, 8, 8, 9, 9, -1, -1)...)
	return whole[:len(l)], whole
}

// P4: no list is written into, nor what stands behind its length; nor is that read.
func TestHandedIn(t *testing.T) {
	weak, weakAll := roomy(edges(3, 0, 1, 2, 2, 1))
	strong, strongAll := roomy(edges(2, 1))
	weakWas, strongWas := slices.Clone(weakAll), slices.Clone(strongAll)
	ringsAre(t, 4, weak, sets(set(1, 2), set(3), set(0)))
	lineIs(t, 4, weak, strong, set(2, 1, 3, 0))
	lineIs(t, 4, strong, weak, set(1, 2, 3, 0))
	if !slices.Equal(weakAll, weakWas) || !slices.Equal(strongAll, strongWas) {
		t.Errorf("what was handed in is %v and %v now, was %v and %v", weakAll, strongAll, weakWas, strongWas)
	}
}

// spoil writes into a list, and behind its length.
func spoil(l []int) {
	l = l[:cap(l)]
	for i := range l {
		l[i] = -7
	}
}

// P4: what comes out is the caller's: no two sets share memory, and what is done with them is seen in no later answer.
func TestHandedOut(t *testing.T) {
	l := edges(0, 1, 1, 0, 2, 3, 3, 4, 4, 2, 7, 6)
	want := sets(set(0, 1), set(2, 3, 4), set(5), set(7), set(6))
	ringsAre(t, 8, l, want)
	for i := range want {
		got, err := order.Rings(8, l)
		if len(got) != len(want) || err != nil {
			t.Fatalf("Rings(8, %v) = %v, %v, want %v", l, got, err, want)
		}
		spoil(got[i])
		for j := range got {
			if j != i && !slices.Equal(got[j], want[j]) {
				t.Errorf("set %d is %v, as set %d is written into, want %v", j, got[j], i, want[j])
			}
		}
	}
	ringsAre(t, 8, l, want)
	line, err := order.Line(8, l, nil)
	if err != nil {
		t.Fatal(err)
	}
	spoil(line)
	lineIs(t, 8, l, nil, set(0, 1, 2, 3, 4, 5, 7, 6))
}

// P4: an answer hangs on which edges there are, not on how they stand, nor how often.
func TestAnyOrder(t *testing.T) {
	d := die(2)
	for range 500 {
		n := 1 + d.below(12)
		weak, strong := d.some(n, 14), d.some(n, 6)
		rings, err := order.Rings(n, weak)
		line, err2 := order.Line(n, weak, strong)
		if err != nil || err2 != nil {
			t.Fatal(err, err2)
		}
		back, backStrong := slices.Clone(weak), slices.Clone(strong)
		slices.Reverse(back)
		slices.Reverse(backStrong)
		ringsAre(t, n, back, rings)
		ringsAre(t, n, slices.Concat(weak, back), rings)
		lineIs(t, n, back, backStrong, line)
		lineIs(t, n, slices.Concat(weak, back, strong), slices.Concat(strong, backStrong), line)
	}
}

// P1: edges may be many; the last one counts, and is told, as well as the first one.
func TestMany(t *testing.T) {
	n := api.MaxPacks
	l := make([]order.Edge, 2_000_000)
	for i := range l {
		l[i] = order.Edge{First: i % n, Then: i % n}
	}
	l[len(l)-1] = order.Edge{First: n - 1, Then: 0}
	want := append(each(n)[1:], 0)
	lineIs(t, n, l, nil, want)
	lineIs(t, n, nil, l, want)
	l[len(l)-1] = order.Edge{First: 0, Then: n}
	ringsFail(t, n, l, api.ErrRange, len(l)-1)
}
