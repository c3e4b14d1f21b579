package version_test

import (
	"fmt"
	"math"
	"strings"
	"testing"

	"stevedore/api"
	"stevedore/version"
)

// ver is a version of its three parts.
func ver(epoch int, upstream, revision string) api.Version {
	return api.Version{Epoch: epoch, Upstream: upstream, Revision: revision}
}

// show is a version as a test tells it: long parts are cut.
func show(v api.Version) string {
	return fmt.Sprintf("{%d %.80q %.80q}", v.Epoch, v.Upstream, v.Revision)
}

// digits is a text of so many digits.
func digits(n int) string { return strings.Repeat("7", n) }

// Promise 1.1: Right.
func TestRight(t *testing.T) {
	for _, c := range []struct {
		v    api.Version
		want bool
	}{
		{ver(0, "1.0", ""), true},
		{ver(0, "0", ""), true},
		{ver(0, "1.0", "2"), true},
		{ver(0, "9AZaz09.+~", "AZaz09.+~"), true},
		{ver(0, "1", "~"), true},
		{ver(0, "1", "a"), true},

		{ver(-1, "1", ""), false},
		{ver(math.MinInt, "1", ""), false},
		{ver(1, "1", ""), true},
		{ver(999_999_999, "1", ""), true},
		{ver(1_000_000_000, "1", ""), false},
		{ver(math.MaxInt, "1", ""), false},

		{ver(0, "", ""), false},
		{ver(0, "", "1"), false},
		{ver(0, "a1", ""), false},
		{ver(0, ".1", ""), false},
		{ver(0, "~1", ""), false},
		{ver(1, ":1", ""), false},
		{ver(0, "-1", "1"), false},

		{ver(0, "1:2", ""), false},
		{ver(0, "1:2", "3"), false},
		{ver(1, "1:2", ""), true},
		{ver(1, "1:2:", "3"), true},
		{ver(-1, "1:2", ""), false},

		{ver(0, "1-2", ""), false},
		{ver(1, "1-2", ""), false},
		{ver(0, "1-2", "3"), true},
		{ver(0, "1-2-", "3"), true},

		{ver(0, "1", "2-3"), false},
		{ver(1, "1", "2:3"), false},
		{ver(1, "1", ":"), false},
		{ver(0, "1", " "), false},

		{ver(0, digits(40), ""), true},
		{ver(0, digits(41), ""), false},
		{ver(0, digits(37), "12"), true},
		{ver(0, digits(37), "123"), false},
		{ver(0, "1", digits(38)), true},
		{ver(0, "1", digits(39)), false},
		{ver(12, digits(37), ""), true},
		{ver(12, digits(38), ""), false},
		{ver(999_999_999, digits(28), "1"), true},
		{ver(999_999_999, digits(28), "12"), false},
		{ver(0, digits(1_000_000), ""), false},
		{ver(0, "1", digits(1_000_000)), false},
	} {
		if got := version.Right(c.v); got != c.want {
			t.Errorf("Right(%s) = %v, want %v", show(c.v), got, c.want)
		}
	}
}

// Promise 1.1: of all bytes just those that are named may stand in the parts.
func TestRightBytes(t *testing.T) {
	const common = "0123456789ABCDEFGHIJKLMNOPQRSTUVWXYZabcdefghijklmnopqrstuvwxyz.+~"
	for c := range 256 {
		s := string([]byte{byte(c)})
		for _, p := range []struct {
			v   api.Version
			may string
		}{
			{ver(0, "1"+s, ""), common},
			{ver(3, "1"+s, ""), common + ":"},
			{ver(0, "1"+s, "1"), common + "-"},
			{ver(3, "1"+s, "1"), common + "-:"},
			{ver(0, s, ""), common[:10]},
			{ver(3, s, "1"), common[:10]},
			{ver(0, "1", s), common},
			{ver(3, "1", s), common},
			{ver(3, "1", "a"+s+"a"), common},
		} {
			if got, want := version.Right(p.v), strings.Contains(p.may, s); got != want {
				t.Errorf("Right(%s) = %v, want %v", show(p.v), got, want)
			}
		}
	}
}

// Promise 1.1: Print, also of versions that are not Right.
func TestPrint(t *testing.T) {
	for _, c := range []struct {
		v    api.Version
		want string
	}{
		{ver(0, "1.0", ""), "1.0"},
		{ver(0, "1.0", "2"), "1.0-2"},
		{ver(3, "1.0", ""), "3:1.0"},
		{ver(3, "1.0", "2"), "3:1.0-2"},
		{ver(999_999_999, "1:0-0", "0"), "999999999:1:0-0-0"},
		{ver(0, "", ""), ""},
		{ver(0, "", "2"), "-2"},
		{ver(7, "", ""), "7:"},
		{ver(-7, "a b", "\x00\xff"), "-7:a b-\x00\xff"},
		{ver(math.MinInt32, "1", ""), "-2147483648:1"},
		{ver(0, digits(50), ""), digits(50)},
	} {
		if got := version.Print(c.v); got != c.want {
			t.Errorf("Print(%s) = %q, want %q", show(c.v), got, c.want)
		}
	}
}

// Promise 1.1: Parse.
func TestParse(t *testing.T) {
	for _, c := range []struct {
		s    string
		want api.Version
	}{
		{"1.0", ver(0, "1.0", "")},
		{"1.0-2", ver(0, "1.0", "2")},
		{"3:1.0-2", ver(3, "1.0", "2")},
		{"0:1.0", ver(0, "1.0", "")},
		{"999999999:1", ver(999_999_999, "1", "")},
		{"1:2:3", ver(1, "2:3", "")},
		{"1:1:", ver(1, "1:", "")},
		{"1:2:3-4", ver(1, "2:3", "4")},
		{"1-2-3", ver(0, "1-2", "3")},
		{"1--3", ver(0, "1-", "3")},
		{"1-~", ver(0, "1", "~")},
		{"1.0~a+B", ver(0, "1.0~a+B", "")},
		{digits(40), ver(0, digits(40), "")},
		{"0:" + digits(38), ver(0, digits(38), "")},
	} {
		if got, err := version.Parse(c.s); got != c.want || err != nil {
			t.Errorf("Parse(%q) = %s, %v, want %s", c.s, show(got), err, show(c.want))
		}
	}
}

// Promise 1.1: Parse tells ErrForm, and no version beside it.
func TestParseWrong(t *testing.T) {
	for _, s := range []string{
		"", "a", ".1", "~1", "-", "-1", ":", " 1", "1 ", "1\n", "1_2", "1\x00", "1\xff", "1é",
		":1", "01:1", "00:1", "-1:1", "-0:1", "+1:1", "a:1", "1a:1", " 1:1", "1 :1", "1.0:1", "1-1:1",
		"1000000000:1", "0000000001:1", "18446744073709551617:1",
		"1:", "1:a", "1::1", "1:-1", "0:1:2", "0:1:2-3", "0:",
		"1-", "1-2-", "1:1-", "1-2:3", "1:1-2:3", "1-a b", "1:1-:",
		digits(41), "1:" + digits(39), "0:" + digits(39), digits(39) + "-1", "1:" + digits(36) + "-12",
		digits(1_000_000),
	} {
		got, err := version.Parse(s)
		if got != (api.Version{}) || api.Tell(err) != api.ErrForm {
			t.Errorf("Parse(%.80q) = %s, %v, want ErrForm", s, show(got), err)
		}
	}
}

// texts are all of at most so many bytes of these.
func texts(of string, most int) []string {
	all, longest := []string{""}, []string{""}
	for range most {
		var longer []string
		for _, s := range longest {
			for i := range len(of) {
				longer = append(longer, s+of[i:i+1])
			}
		}
		all, longest = append(all, longer...), longer
	}
	return all
}

// Promise 1.1: what is written is read as it was, and just what is Right can be written so.
func TestPrintParse(t *testing.T) {
	for _, epoch := range []int{-1, 0, 1, 10, 1_000_000_000} {
		for _, upstream := range texts("01a:-.~_", 3) {
			for _, revision := range texts("0a:-~", 2) {
				v := ver(epoch, upstream, revision)
				got, err := version.Parse(version.Print(v))
				if right := version.Right(v); right != (err == nil && got == v) {
					t.Errorf("%s: Right is %v, but Parse of Print is %s, %v", show(v), right, show(got), err)
				}
			}
		}
	}
}

// Promise 1.1: whatever Parse reads is Right, and is written as it stood there (but for an epoch of 0).
func TestParsePrint(t *testing.T) {
	for _, s := range texts("01a:-.~_", 5) {
		v, err := version.Parse(s)
		if err != nil {
			continue
		}
		if !version.Right(v) {
			t.Errorf("Parse(%q) = %s, which is not Right", s, show(v))
		}
		if got, want := version.Print(v), strings.TrimPrefix(s, "0:"); got != want {
			t.Errorf("Print(Parse(%q)) = %q, want %q", s, got, want)
		}
	}
}
