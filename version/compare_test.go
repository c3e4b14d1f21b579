package version_test

import (
	"cmp"
	"math"
	"regexp"
	"strconv"
	"strings"
	"testing"

	"stevedore/api"
	"stevedore/version"
)

// rising are parts in order; those of one row are the same.
var rising = [][]string{
	{"~~"},
	{"~~a"},
	{"~", "~0", "~00"},
	{"~1"},
	{"~a"},
	{"~."},
	{"0~", "00~", "0~0"},
	{"0~a"},
	{"", "0", "00", "000000000000000000000000000000"},
	{"0a"},
	{"1~~", "01~~0"},
	{"1~"},
	{"1~a~"},
	{"1~a"},
	{"1", "01", "001"},
	{"1A~"},
	{"1A", "1A0"},
	{"1A1"},
	{"1AA"},
	{"1A."},
	{"1B"},
	{"1Z"},
	{"1a"},
	{"1a2"},
	{"1a10", "1a010"},
	{"1z"},
	{"1\x00"},
	{"1 "},
	{"1+"},
	{"1-"},
	{"1.~"},
	{"1.0~~"},
	{"1.0~a"},
	{"1.", "1.0", "1.00", "01.0"},
	{"1.0a"},
	{"1.0+b"},
	{"1.0.", "1.0.0"},
	{"1.1"},
	{"1.2.3"},
	{"1.9"},
	{"1.10"},
	{"1.a"},
	{"1.+"},
	{"1.."},
	{"1:"},
	{"1["},
	{"1_"},
	{"1\x7f"},
	{"1\x80"},
	{"1\xff"},
	{"2"},
	{"10"},
	{"99999999999999999999"},
	{"100000000000000000000", "0100000000000000000000"},
	{"100000000000000000001"},
	{"A"},
	{"a~"},
	{"a"},
	{"."},
	{"\xff"},
}

// sign is -1, 0 or 1.
func sign(n int) int { return cmp.Compare(n, 0) }

// holds tests Compare of two versions.
func holds(t *testing.T, a, b api.Version, want int) {
	t.Helper()
	if got := sign(version.Compare(a, b)); got != want {
		t.Errorf("Compare(%s, %s) has the sign %d, want %d", show(a), show(b), got, want)
	}
}

// Promise 1.2: Compare, of Upstream, and of Revision.
func TestCompareParts(t *testing.T) {
	for i, row := range rising {
		for j, other := range rising {
			for _, a := range row {
				for _, b := range other {
					want := cmp.Compare(i, j)
					holds(t, ver(0, a, ""), ver(0, b, ""), want)
					holds(t, ver(3, a, "1"), ver(3, b, "1"), want)
					holds(t, ver(0, "1.0", a), ver(0, "1.0", b), want)
					holds(t, ver(0, "1.0", a), ver(0, "01.00", b), want)
				}
			}
		}
	}
}

// Promise 1.2: Compare goes by Epoch, then Upstream, then Revision.
func TestCompareWhole(t *testing.T) {
	for _, c := range []struct {
		a, b api.Version
		want int
	}{
		{ver(0, "1.0~a", ""), ver(0, "1.0", ""), -1},
		{ver(0, "1.0", ""), ver(0, "1.0", "2"), -1},
		{ver(0, "1.9", ""), ver(0, "1.10", ""), -1},
		{ver(0, "1.0", ""), ver(0, "1.0", "0"), 0},
		{ver(0, "1.0", "~"), ver(0, "1.0", ""), -1},
		{ver(0, "9", "9"), ver(1, "1", "1"), -1},
		{ver(9, "1", ""), ver(10, "1", ""), -1},
		{ver(2, "1", "9"), ver(2, "2", "1"), -1},
		{ver(2, "2", "1"), ver(2, "2", "2"), -1},
		{ver(2, "2", "2"), ver(2, "2", "2"), 0},
		{ver(0, "1-2", "3"), ver(0, "1", "2"), 1},
		{ver(-1, "9", ""), ver(0, "1", ""), -1},
		{ver(math.MinInt, "1", ""), ver(math.MaxInt, "1", ""), -1},
		{ver(0, "", ""), ver(0, "", ""), 0},
		{ver(0, "", ""), ver(0, "0", "0"), 0},
	} {
		holds(t, c.a, c.b, c.want)
		holds(t, c.b, c.a, -c.want)
	}
}

// Promise 1.2: parts that are long, and numbers in them that are.
func TestCompareLong(t *testing.T) {
	nines, one := strings.Repeat("9", 100_000), "1"+strings.Repeat("0", 100_000)
	holds(t, ver(0, nines, ""), ver(0, one, ""), -1)
	holds(t, ver(0, "a"+one, ""), ver(0, "a"+strings.Repeat("0", 100_000)+nines, ""), 1)
	turns := strings.Repeat("1.a", 100_000)
	holds(t, ver(0, turns, turns), ver(0, turns, turns), 0)
	holds(t, ver(0, turns, turns), ver(0, turns, turns+"~"), 1)
	holds(t, ver(0, turns, turns+"2"), ver(0, turns, turns+"1"), 1)
}

// key is a part as numbers, so that two of them are in the order of their parts if noughts are laid behind the shorter one: what is no digit by its place (the end's is 0), then the digits' number.
func key(s string) []int {
	var l []int
	for _, turn := range regexp.MustCompile(`([^0-9]*)([0-9]*)`).FindAllStringSubmatch(s, -1) {
		for _, c := range []byte(turn[1]) {
			l = append(l, strings.IndexByte("~$ABCabc+-.", c)-1)
		}
		n, _ := strconv.Atoi(turn[2])
		l = append(l, 0, n)
	}
	return l
}

// keysCompare holds two keys against each other.
func keysCompare(a, b []int) int {
	at := func(l []int, i int) int {
		if i < len(l) {
			return l[i]
		}
		return 0
	}
	for i := range max(len(a), len(b)) {
		if c := cmp.Compare(at(a, i), at(b, i)); c != 0 {
			return c
		}
	}
	return 0
}

// Promise 1.2: all short parts, held against each other, stand in a row.
func TestCompareAll(t *testing.T) {
	parts := texts("~019Ba.+", 3)
	keys := make([][]int, len(parts))
	for i, s := range parts {
		keys[i] = key(s)
	}
	for i, a := range parts {
		for j, b := range parts {
			holds(t, ver(0, a, ""), ver(0, b, ""), keysCompare(keys[i], keys[j]))
		}
	}
}

// Promise 1.2: Is.
func TestIs(t *testing.T) {
	low, same, high := ver(0, "1.0", ""), ver(0, "1.00", "0"), ver(0, "1.0", "1")
	for _, c := range []struct {
		op                int
		below, at, beyond bool
	}{
		{api.Any, true, true, true},
		{api.Less, true, false, false},
		{api.AtMost, true, true, false},
		{api.Same, false, true, false},
		{api.AtLeast, false, true, true},
		{api.More, false, false, true},
		{api.More + 1, false, false, false},
		{api.Any - 1, false, false, false},
		{math.MaxInt, false, false, false},
		{math.MinInt, false, false, false},
	} {
		below, at, beyond := version.Is(low, c.op, high), version.Is(low, c.op, same), version.Is(high, c.op, low)
		if below != c.below || at != c.at || beyond != c.beyond {
			t.Errorf("Is with %d = %v, %v, %v, want %v, %v, %v", c.op, below, at, beyond, c.below, c.at, c.beyond)
		}
	}
	// Any asks nothing, not even that the versions are Right.
	if !version.Is(ver(-1, " ", ""), api.Any, ver(0, "", "-")) {
		t.Error("Is with Any is false of versions that are not Right")
	}
}
