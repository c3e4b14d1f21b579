package version

import (
	"cmp"
	"strings"

	"stevedore/api"
)

// Compare is the order of versions: by the epoch, upstream, the revision.
func Compare(a, b api.Version) int {
	if c := cmp.Compare(a.Epoch, b.Epoch); c != 0 {
		return c
	}
	if c := compareParts(a.Upstream, b.Upstream); c != 0 {
		return c
	}
	return compareParts(a.Revision, b.Revision)
}

// Is says whether a version is as it is asked of it, held against another one.
func Is(v api.Version, op int, other api.Version) bool {
	switch op {
	case api.Any:
		return true
	case api.Less:
		return Compare(v, other) < 0
	case api.AtMost:
		return Compare(v, other) <= 0
	case api.Same:
		return Compare(v, other) == 0
	case api.AtLeast:
		return Compare(v, other) >= 0
	case api.More:
		return Compare(v, other) > 0
	}
	return false
}

// compareParts holds two parts against each other: by turns what is no digit, and digits.
func compareParts(a, b string) int {
	for a != "" || b != "" {
		var x, y string
		x, a = cutRun(a, false)
		y, b = cutRun(b, false)
		if c := compareWords(x, y); c != 0 {
			return c
		}
		x, a = cutRun(a, true)
		y, b = cutRun(b, true)
		if c := compareNumbers(x, y); c != 0 {
			return c
		}
	}
	return 0
}

// cutRun cuts a text behind its first bytes that are all digits, or all none.
func cutRun(s string, digits bool) (run, rest string) {
	for i := range len(s) {
		if digit(s[i]) != digits {
			return s[:i], s[i:]
		}
	}
	return s, ""
}

// compareWords holds texts without digits against each other. The shorter one's end counts, too: a ~ stands ahead of it.
func compareWords(a, b string) int {
	for i := range max(len(a), len(b)) {
		if c := cmp.Compare(rank(a, i), rank(b, i)); c != 0 {
			return c
		}
	}
	return 0
}

// rank is where a byte of a word (or its end) stands among all bytes.
func rank(s string, i int) int {
	switch {
	case i >= len(s):
		return 0
	case s[i] == '~':
		return -1
	case letter(s[i]):
		return int(s[i])
	}
	return 256 + int(s[i])
}

// compareNumbers holds digits against each other as texts: as numbers they may be greater than any int.
func compareNumbers(a, b string) int {
	a, b = strings.TrimLeft(a, "0"), strings.TrimLeft(b, "0")
	if c := cmp.Compare(len(a), len(b)); c != 0 {
		return c
	}
	return strings.Compare(a, b)
}
