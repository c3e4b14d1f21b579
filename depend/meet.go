package depend

import (
	"slices"

	"stevedore/api"
	"stevedore/version"
)

// Meets says whether a package is what is asked for: by its own name and version, or by what it provides (of a version, only if it says so: Same).
func Meets(o Offer, t api.Term) bool {
	if o.Name == t.Name && version.Is(o.Version, t.Op, t.Version) {
		return true
	}
	return slices.ContainsFunc(o.Provides, func(p api.Term) bool { return p.Name == t.Name && provided(p, t) })
}

// Met says whether of each of what is asked for one is there; if not, which one is the first that is not (from 0 on).
func Met(l [][]api.Term, offers []Offer) (int, bool) {
	there := func(t api.Term) bool {
		return slices.ContainsFunc(offers, func(o Offer) bool { return Meets(o, t) })
	}
	for i, some := range l {
		if !slices.ContainsFunc(some, there) {
			return i, false
		}
	}
	return 0, true
}

// provided says whether what is provided by a name is so as it is asked of that name: without a version it is of none.
func provided(p, t api.Term) bool {
	return t.Op == api.Any || p.Op == api.Same && version.Is(p.Version, t.Op, t.Version)
}
