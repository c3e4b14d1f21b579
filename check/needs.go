package check

import (
	"slices"

	"stevedore/api"
	"stevedore/depend"
)

// Needs are the numbers of those that are known, that work, and would miss one that went: whom what they depend on, or what must be done ahead, is met by with it, but not without it; and of those again.
func Needs(l []Known, which int) []int {
	if which < 0 || which >= len(l) {
		return nil
	}
	gone := make([]bool, len(l))
	gone[which] = true
	stays := func(i int) bool { return works(l[i]) && !gone[i] }
	all := offers(l, func(i int) bool { return works(l[i]) })
	goes := []int{which}
	for at := 0; at < len(goes); at++ {
		went := offer(l[goes[at]].Pack)
		for i := range l {
			if !stays(i) {
				continue
			}
			asks := slices.Concat(l[i].Pack.Depends, l[i].Pack.Ahead)
			// Only who asks for one that went can miss more than before it did: nobody else need be looked at again.
			if asked(asks, went) && met(asks, all) && !met(asks, offers(l, stays)) {
				gone[i] = true
				goes = append(goes, i)
			}
		}
	}
	needs := goes[1:]
	slices.Sort(needs)
	return needs
}

// met says whether all that is asked for is there.
func met(asks [][]api.Term, by []depend.Offer) bool {
	_, ok := depend.Met(asks, by)
	return ok
}
