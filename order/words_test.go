package order_test

import (
	"slices"
	"testing"

	"stevedore/api"
	"stevedore/order"
)

// comesTo says whether b can be come to from a by edges, one step after the other.
func comesTo(l []order.Edge, a, b int) bool {
	seen := set(a)
	for i := 0; i < len(seen); i++ {
		for _, e := range l {
			if e.First == seen[i] && !slices.Contains(seen, e.Then) {
				seen = append(seen, e.Then)
			}
		}
	}
	return slices.Contains(seen, b)
}

// ringOf is the set in which a number is, by the words of the document.
func ringOf(n int, l []order.Edge, a int) []int {
	var ring []int
	for b := range n {
		if comesTo(l, a, b) && comesTo(l, b, a) {
			ring = append(ring, b)
		}
	}
	return ring
}

// byWords are the rings by the words of the document: the next set is, of those without an edge from another one that is not told, the one with the least number.
func byWords(n int, l []order.Edge) [][]int {
	var told []int
	var out [][]int
	free := func(ring []int) bool {
		return !slices.ContainsFunc(l, func(e order.Edge) bool {
			return slices.Contains(ring, e.Then) && !slices.Contains(ring, e.First) && !slices.Contains(told, e.First)
		})
	}
	for len(told) < n {
		for a := range n {
			if ring := ringOf(n, l, a); !slices.Contains(told, a) && free(ring) {
				out = append(out, ring)
				told = append(told, ring...)
				break
			}
		}
	}
	return out
}

// lineByWords is the line by the words of the document, of its rings.
func lineByWords(rings [][]int, strong []order.Edge) []int {
	var line []int
	for _, ring := range rings {
		left := slices.Clone(ring)
		for len(left) > 0 {
			next := left[0]
			for _, a := range left {
				waits := slices.ContainsFunc(strong, func(e order.Edge) bool {
					return e.Then == a && e.First != a && slices.Contains(left, e.First)
				})
				if !waits {
					next = a
					break
				}
			}
			line = append(line, next)
			left = slices.DeleteFunc(left, func(a int) bool { return a == next })
		}
	}
	return line
}

// subset are those edges among n numbers whose bits are set.
func subset(n, bits int) []order.Edge {
	var l []order.Edge
	for i := range n * n {
		if bits>>i&1 == 1 {
			l = append(l, order.Edge{First: i / n, Then: i % n})
		}
	}
	return l
}

// Promise 9.1: all edges among few.
func TestRingsAll(t *testing.T) {
	for n := range 5 {
		for bits := range 1 << (n * n) {
			l := subset(n, bits)
			ringsAre(t, n, l, byWords(n, l))
			if t.Failed() {
				return
			}
		}
	}
}

// Promise 9.2: all weak and strong edges among few.
func TestLineAll(t *testing.T) {
	for n := range 4 {
		most := 1 << (n * n)
		rings := make([][][]int, most)
		for bits := range most {
			rings[bits] = byWords(n, subset(n, bits))
		}
		for weak := range most {
			for strong := range most {
				l := subset(n, strong)
				lineIs(t, n, subset(n, weak), l, lineByWords(rings[weak|strong], l))
				if t.Failed() {
					return
				}
			}
		}
	}
}

// die is numbers that look drawn, the same each time.
type die uint64

// below is the next one, below a number.
func (d *die) below(n int) int {
	*d = *d*6364136223846793005 + 1442695040888963407
	return int(uint64(*d>>33) % uint64(n))
}

// some are edges among n numbers, at most so many.
func (d *die) some(n, most int) []order.Edge {
	var l []order.Edge
	for range d.below(most + 1) {
		l = append(l, order.Edge{First: d.below(n), Then: d.below(n)})
	}
	return l
}

// Promises 9.1, 9.2: some edges among more, up to as many as there may be.
func TestMore(t *testing.T) {
	d := die(9)
	for range 300 {
		n := 1 + d.below(api.MaxPacks)
		weak, strong := d.some(n, n+n/4), d.some(n, n/2+1)
		ringsAre(t, n, weak, byWords(n, weak))
		lineIs(t, n, weak, strong, lineByWords(byWords(n, slices.Concat(weak, strong)), strong))
	}
}

// Promises 9.1, 9.2: one ring of some, with strong edges: the line is just as the words say.
func TestOneRing(t *testing.T) {
	d := die(5)
	for range 3000 {
		n := 2 + d.below(api.MaxPacks-1)
		weak, strong := edges(n-1, 0), d.some(n, 2*n)
		for i := range n - 1 {
			weak = append(weak, order.Edge{First: i, Then: i + 1})
		}
		ringsAre(t, n, weak, sets(each(n)))
		lineIs(t, n, weak, strong, lineByWords(sets(each(n)), strong))
	}
}

// Promises 9.1, 9.2: the longest ways, forth and back, and the greatest ring.
func TestLongest(t *testing.T) {
	n := api.MaxPacks
	var up, down []order.Edge
	var rising, falling [][]int
	for i := range n {
		rising, falling = append(rising, set(i)), append(falling, set(n-1-i))
		if i > 0 {
			up, down = append(up, order.Edge{First: i - 1, Then: i}), append(down, order.Edge{First: i, Then: i - 1})
		}
	}
	back := slices.Concat(falling...)
	ringsAre(t, n, up, rising)
	ringsAre(t, n, down, falling)
	ringsAre(t, n, slices.Concat(up, down), sets(each(n)))
	ringsAre(t, n, slices.Concat(up, edges(n-1, 0)), sets(each(n)))
	lineIs(t, n, down, nil, back)
	lineIs(t, n, nil, down, back)
	lineIs(t, n, up, down, back)
	lineIs(t, n, down, up, each(n))
	lineIs(t, n, nil, slices.Concat(up, edges(n-1, 0)), each(n))
	lineIs(t, n, nil, slices.Concat(down, edges(0, n-1)), append(set(0), back[:n-1]...))
}
