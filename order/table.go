package order

import "stevedore/api"

// table says of each one ahead of whom it comes: it is as great however often an edge is told.
type table [api.MaxPacks][api.MaxPacks]bool

// edges is the table of the edges of all lists, which must be right.
func edges(lists ...[]Edge) *table {
	var t table
	for _, l := range lists {
		for _, e := range l {
			t[e.First][e.Then] = true
		}
	}
	return &t
}

// follow adds the ways of several edges, and those of none, from each one to itself, to the table of so many.
func (t *table) follow(n int) {
	for a := range n {
		t[a][a] = true
	}
	for by := range n {
		for a := range n {
			for b := range n {
				t[a][b] = t[a][b] || t[a][by] && t[by][b]
			}
		}
	}
}
