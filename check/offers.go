package check

import (
	"slices"

	"stevedore/api"
	"stevedore/depend"
)

// offer is what a package offers.
func offer(p api.Pack) depend.Offer {
	return depend.Offer{Name: p.Name, Version: p.Version, Provides: p.Provides}
}

// offers are those of the packages that count, by their numbers.
func offers(l []Known, counts func(i int) bool) []depend.Offer {
	var out []depend.Offer
	for i, k := range l {
		if counts(i) {
			out = append(out, offer(k.Pack))
		}
	}
	return out
}

// meetsOne says whether an offer is one of the terms.
func meetsOne(o depend.Offer, l []api.Term) bool {
	return slices.ContainsFunc(l, func(t api.Term) bool { return depend.Meets(o, t) })
}

// asked says whether an offer is a term of anything that is asked for.
func asked(l [][]api.Term, o depend.Offer) bool {
	return slices.ContainsFunc(l, func(some []api.Term) bool { return meetsOne(o, some) })
}
