package stanza_test

import (
	"fmt"
	"slices"
	"strings"
	"testing"

	"stevedore/api"
	"stevedore/stanza"
)

// list is fields: names, and what they say, by turns.
func list(l ...string) []api.Field {
	var out []api.Field
	for i := 0; i < len(l); i += 2 {
		out = append(out, api.Field{Name: l[i], Value: l[i+1]})
	}
	return out
}

// numbered is so many fields, each with a name of its own.
func numbered(n int) []api.Field {
	var out []api.Field
	for i := range n {
		out = append(out, api.Field{Name: fmt.Sprint("f", i), Value: "x"})
	}
	return out
}

// show is something as a test tells it: it is cut if it is long.
func show(x any) string { return fmt.Sprintf("%.200s", fmt.Sprintf("%q", x)) }

// long is a text of so many letters.
func long(n int) string { return strings.Repeat("x", n) }

// texts are all of at most so many bytes of these.
func texts(of string, most int) []string {
	all, longest := []string{""}, []string{""}
	for range most {
		var longer []string
		for _, s := range longest {
			for i := range len(of) {
				longer = append(longer, s+of[i:i+1])
			}
		}
		all, longest = append(all, longer...), longer
	}
	return all
}

// right tests Right, and that Print writes just what is Right.
func right(t *testing.T, l []api.Field, want bool) {
	t.Helper()
	if got := stanza.Right(l); got != want {
		t.Errorf("Right(%s) = %v, want %v", show(l), got, want)
	}
	s, err := stanza.Print(l)
	if want && (err != nil || s == "") {
		t.Errorf("Print(%s) = %s, %v, want a stanza", show(l), show(s), err)
	}
	if !want && (api.Tell(err) != api.ErrArg || s != "") {
		t.Errorf("Print(%s) = %s, %v, want ErrArg", show(l), show(s), err)
	}
}

// Promise 2.1: Small changes A to Z alone.
func TestSmall(t *testing.T) {
	for _, c := range []struct{ s, want string }{
		{"", ""},
		{"Package", "package"},
		{"ABCDEFGHIJKLMNOPQRSTUVWXYZ", "abcdefghijklmnopqrstuvwxyz"},
		{"abcdefghijklmnopqrstuvwxyz", "abcdefghijklmnopqrstuvwxyz"},
		{"X-y_9 :", "x-y_9 :"},
		{"\u00c4A\u212a", "\u00c4a\u212a"},
		{"\xffA\xc3", "\xffa\xc3"},
	} {
		if got := stanza.Small(c.s); got != c.want {
			t.Errorf("Small(%q) = %q, want %q", c.s, got, c.want)
		}
	}
	for c := range 256 {
		want := byte(c)
		if strings.IndexByte("ABCDEFGHIJKLMNOPQRSTUVWXYZ", want) >= 0 {
			want += 32
		}
		if got := stanza.Small(string([]byte{byte(c)})); got != string([]byte{want}) {
			t.Errorf("Small of the byte %d = %q", c, got)
		}
	}
}

// Promise 2.1: of all bytes just those that are named may stand in a name.
func TestNameBytes(t *testing.T) {
	for c := range 256 {
		s := string([]byte{byte(c)})
		may := 33 <= c && c <= 126 && c != ':'
		right(t, list("a"+s, "x"), may)
		right(t, list("a"+s+"a", "x"), may)
		right(t, list(s, "x"), may && c != '#' && c != '-')
		right(t, list(s+"a", "x"), may && c != '#' && c != '-')
	}
}

// Promise 2.1: a name is 1 to MaxName bytes.
func TestNameLong(t *testing.T) {
	right(t, list("", "x"), false)
	right(t, list(long(24), "x"), true)
	right(t, list(long(25), "x"), false)
	right(t, list(long(1_000_000), "x"), false)
}

// Promise 2.1: of all bytes just those that are named may stand in a line, blanks and tabs not at its ends.
func TestLineBytes(t *testing.T) {
	for c := range 256 {
		s := string([]byte{byte(c)})
		may := c >= 32 && c != 127 || c == '\t'
		end := may && c != ' ' && c != '\t'
		for _, ahead := range []string{"", "\n", "x\n", "x\ny\n"} {
			for _, behind := range []string{"", "\nx", "\nx\ny"} {
				right(t, list("A", ahead+"a"+s+"a"+behind), may || c == '\n')
				if c != '\n' {
					right(t, list("A", ahead+s+behind), end)
					right(t, list("A", ahead+s+"a"+behind), end)
					right(t, list("A", ahead+"a"+s+behind), end)
				}
			}
		}
	}
}

// Promise 2.1: none but the first line is empty.
func TestEmptyLines(t *testing.T) {
	for s, want := range map[string]bool{
		"": true, "a": true, "\na": true, "a\nb": true, "\na\nb": true, "\n.": true, ".\n.": true,
		"\n": false, "\n\n": false, "a\n": false, "a\n\n": false, "\n\na": false, "a\n\nb": false, "\na\n": false, "a\nb\n": false,
		"\n ": false, "\n \na": false, "a\n\t\nb": false, " \na": false,
	} {
		right(t, list("A", s), want)
		right(t, list("A", "x", "B", s, "C", ""), want)
	}
}

// Promise 2.1: there are 1 to MaxFields fields.
func TestFieldsMany(t *testing.T) {
	right(t, nil, false)
	right(t, []api.Field{}, false)
	right(t, numbered(1), true)
	right(t, numbered(40), true)
	right(t, numbered(41), false)
	right(t, numbered(100_000), false)
}

// Promise 2.1: no two names are of one Small.
func TestNamesTwice(t *testing.T) {
	right(t, list("A", "x", "B", "x"), true)
	right(t, list("A", "x", "A", "x"), false)
	right(t, list("A", "x", "a", "y"), false)
	right(t, list("a", "x", "B", "y", "A", "z"), false)
	right(t, list("B", "x", "x-Y", "y", "X-y", "z"), false)
	right(t, list("A", "x", "AA", "x", "A-", "x"), true)
	right(t, list("[", "x", "{", "y"), true)
	right(t, list("@", "x", "`", "y"), true)
	right(t, append(numbered(39), list("F0", "x")...), false)
	right(t, append(numbered(39), list("F38", "x")...), false)
	right(t, append(numbered(39), list("F39", "x")...), true)
}

// Promise 2.1: Print has at most MaxBytes bytes.
func TestBytesMany(t *testing.T) {
	right(t, list("A", long(3996)), true)
	right(t, list("A", long(3997)), false)
	right(t, list("A", long(4000)), false)
	right(t, list("A", "\n"+long(3995)), true)
	right(t, list("A", "\n"+long(3996)), false)
	right(t, list("A", "\n."+long(3993)), true)
	right(t, list("A", "\n."+long(3994)), false)
	right(t, list("A", "."+long(3995)), true)
	right(t, list("A", long(1996), "B", long(1996)), true)
	right(t, list("A", long(1997), "B", long(1996)), false)
	right(t, list("A", long(1996), "BB", long(1996)), false)
	right(t, list("AA", strings.Repeat("\nx", 1332)), true)
	right(t, list("AAA", strings.Repeat("\nx", 1332)), false)
	right(t, list("A", long(1_000_000)), false)
	right(t, list("A", "x"+strings.Repeat("\nx", 1_000_000)), false)
}

// Promise 2.1: Print, byte by byte.
func TestPrint(t *testing.T) {
	for _, c := range []struct {
		l    []api.Field
		want string
	}{
		{list("A", "x"), "A: x\n"},
		{list("A", ""), "A:\n"},
		{list("Package", "aa", "Version", "1.0"), "Package: aa\nVersion: 1.0\n"},
		{list("B", "", "a", "", "C", "x y\tz"), "B:\na:\nC: x y\tz\n"},
		{list("A", "x\ny\nz"), "A: x\n y\n z\n"},
		{list("A", "\nbin/x\nbin/y", "B", "x"), "A:\n bin/x\n bin/y\nB: x\n"},
		{list("A", ".x"), "A: .x\n"},
		{list("A", ".x\n.y\n..z\n.\nx."), "A: .x\n ..y\n ...z\n ..\n x.\n"},
		{list("A", "#\n#"), "A: #\n #\n"},
		{list("A", ":\n:"), "A: :\n :\n"},
		{list("A", "x\nB: y"), "A: x\n B: y\n"},
		{list("A", "\x80\xff\nä"), "A: \x80\xff\n ä\n"},
		{list("a#-", "x"), "a#-: x\n"},
	} {
		if got, err := stanza.Print(c.l); got != c.want || err != nil {
			t.Errorf("Print(%s) = %q, %v, want %q", show(c.l), got, err, c.want)
		}
	}
}

// Promise 2.2: Get, also of fields that are not Right.
func TestGet(t *testing.T) {
	l := list("Package", "aa", "x-Y", "", "B", "a\nb", "b", "c", "", "none")
	for _, c := range []struct {
		s, want string
		ok      bool
	}{
		{"Package", "aa", true},
		{"package", "aa", true},
		{"PACKAGE", "aa", true},
		{"X-y", "", true},
		{"B", "a\nb", true},
		{"b", "a\nb", true},
		{"", "none", true},
		{"Packag", "", false},
		{"Package ", "", false},
		{"Packages", "", false},
		{"aa", "", false},
		{"x\x0dy", "", false},
	} {
		if got, ok := stanza.Get(l, c.s); got != c.want || ok != c.ok {
			t.Errorf("Get(%q) = %q, %v, want %q, %v", c.s, got, ok, c.want, c.ok)
		}
	}
	if got, ok := stanza.Get(nil, ""); got != "" || ok {
		t.Errorf("Get of no fields = %q, %v", got, ok)
	}
	if got, ok := stanza.Get(list("\u212a", "x", "[", "y"), "k"); got != "" || ok {
		t.Errorf("Get of another letter = %q, %v", got, ok)
	}
}

// Promises 2.1, 2.2: what is handed in is not written into, nor what stands behind it.
func TestFieldsStay(t *testing.T) {
	all := list("B", "\n.b", "A", "x", "b", "y", "Z", "z")
	was := slices.Clone(all)
	for n := range all {
		stanza.Right(all[:n])
		stanza.Print(all[:n])
		stanza.Get(all[:n], "z")
	}
	if !slices.Equal(all, was) {
		t.Errorf("fields were %s, are %s", show(was), show(all))
	}
}
