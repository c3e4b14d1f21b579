package check

import (
	"stevedore/api"
	"stevedore/order"
)

// Line is the order in which those that are known, and are about to do what they are there for, may do so: each behind what it depends on, as far as it can be (of rings, who must be done ahead counts more).
func Line(l []Known) []int {
	var starts []int
	for i, k := range l {
		if mayStart(k) {
			starts = append(starts, i)
		}
	}
	// So many cannot stand in line: their edges, which are far more, need not be looked for.
	if len(starts) > api.MaxPacks {
		return nil
	}
	weak := edges(l, starts, func(p api.Pack) [][]api.Term { return p.Depends })
	strong := edges(l, starts, func(p api.Pack) [][]api.Term { return p.Ahead })
	// No error can be told: they are not too many, and all edges are theirs.
	line, _ := order.Line(len(starts), weak, strong)
	for i, n := range line {
		line[i] = starts[n]
	}
	return line
}

// edges lead, among some packages, from each one that is asked for to who asks.
func edges(l []Known, among []int, asks func(p api.Pack) [][]api.Term) []order.Edge {
	var out []order.Edge
	for then, i := range among {
		for first, j := range among {
			if asked(asks(l[i].Pack), offer(l[j].Pack)) {
				out = append(out, order.Edge{First: first, Then: then})
			}
		}
	}
	return out
}
