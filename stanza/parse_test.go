package stanza_test

import (
	"errors"
	"regexp"
	"slices"
	"strings"
	"testing"

	"stevedore/api"
	"stevedore/stanza"
)

// same says whether two lists of stanzas are alike.
func same(a, b [][]api.Field) bool { return slices.EqualFunc(a, b, slices.Equal[[]api.Field]) }

// parses tests Parse: what it reads, or the line at which it is wrong (below 0: none).
func parses(t *testing.T, s string, want [][]api.Field, place int) {
	t.Helper()
	got, err := stanza.Parse(s)
	if place < 0 {
		if !same(got, want) || err != nil {
			t.Errorf("Parse(%s) = %s, %v, want %s", show(s), show(got), err, show(want))
		}
		return
	}
	var at *api.At
	if len(got) > 0 || api.Tell(err) != api.ErrForm || !errors.As(err, &at) || at.Err != api.ErrForm || at.Place != place {
		t.Errorf("Parse(%s) = %s, %#v, want ErrForm at %d", show(s), show(got), err, place)
	}
}

// Promise 2.2: Parse.
func TestParse(t *testing.T) {
	type stanzas = [][]api.Field
	for _, c := range []struct {
		s    string
		want stanzas
	}{
		{"", nil},
		{"\n", nil},
		{"\n \n\t\n \t \n\n", nil},
		{"#", nil},
		{"# x\n#\n\n#:\n", nil},
		{"A: x", stanzas{list("A", "x")}},
		{"A: x\n", stanzas{list("A", "x")}},
		{"A:x", stanzas{list("A", "x")}},
		{"A:", stanzas{list("A", "")}},
		{"A: \t ", stanzas{list("A", "")}},
		{"A:\t  x y\tz \t", stanzas{list("A", "x y\tz")}},
		{"A: x: y:", stanzas{list("A", "x: y:")}},
		{"A::", stanzas{list("A", ":")}},
		{"A: # x", stanzas{list("A", "# x")}},
		{"A: .x", stanzas{list("A", ".x")}},
		{"A: .", stanzas{list("A", ".")}},
		{"A: \x80\xff", stanzas{list("A", "\x80\xff")}},
		{"a#-.: x", stanzas{list("a#-.", "x")}},
		{".: x", stanzas{list(".", "x")}},
		{"A: x\nB: y\na-: z\n", stanzas{list("A", "x", "B", "y", "a-", "z")}},

		{"A: x\n y\n\tz", stanzas{list("A", "x\ny\nz")}},
		{"A:\n y\n", stanzas{list("A", "\ny")}},
		{"A: x\n \t y z \t\n", stanzas{list("A", "x\ny z")}},
		{"A: x\n B: y\nC: z", stanzas{list("A", "x\nB: y", "C", "z")}},
		{"A: x\n #\n", stanzas{list("A", "x\n#")}},
		{"A: x\n :\n", stanzas{list("A", "x\n:")}},
		{"A: x\n -\n", stanzas{list("A", "x\n-")}},
		{"A: x\n ..\n ...\n\t ..y \n .. y\n y.", stanzas{list("A", "x\n.\n..\n.y\n. y\ny.")}},
		{"A: x\n \x80\xff\n", stanzas{list("A", "x\n\x80\xff")}},

		{"A: x\n#\n y\n# z\nB: z\n#", stanzas{list("A", "x\ny", "B", "z")}},
		{"#\nA: x", stanzas{list("A", "x")}},
		{"A: x\n#\nB: y", stanzas{list("A", "x", "B", "y")}},

		{"A: x\n\nA: y", stanzas{list("A", "x"), list("A", "y")}},
		{"A: x\n \t\nB: y\n\n\nC: z\n\n", stanzas{list("A", "x"), list("B", "y"), list("C", "z")}},
		{"\n\nA: x\n#\n\n#\n\nB: y\n z", stanzas{list("A", "x"), list("B", "y\nz")}},
		{"A:\n\nB:\n z\n\na:\n", stanzas{list("A", ""), list("B", "\nz"), list("a", "")}},
	} {
		parses(t, c.s, c.want, -1)
	}
}

// Promise 2.2: ErrForm, at the line; of several lines the first one's.
func TestParseWrong(t *testing.T) {
	for _, c := range []struct {
		s     string
		place int
	}{
		{"x", 0},
		{":", 0},
		{": x", 0},
		{"-A: x", 0},
		{"A : x", 0},
		{"A B: x", 0},
		{"A\t: x", 0},
		{"ä: x", 0},
		{"A: x\x00", 0},
		{"A: x\x7f", 0},
		{"A: x\r\n", 0},
		{"A: \v", 0},
		{"\r\n", 0},
		{"A", 0},
		{"A: x\nB", 1},
		{"A: x\n- y", 1},
		{"# x\n\nA: x\n\nB: y\nC", 5},

		{" x", 0},
		{"\tA: x", 0},
		{" .", 0},
		{"# x\n x", 1},
		{"\n x", 1},
		{"A: x\n\n y", 2},
		{"A: x\n \t\n#\n y", 3},

		{"A: x\n .", 1},
		{"A: x\n .y", 1},
		{"A: x\n y\n\t. .y \n", 2},
		{"A: x\n . ", 1},
		{"A: x\n y\x01", 1},
		{"A: x\n ..\x7f", 1},
		{"A: x\n y\r\n", 1},

		{"A: x\nA: x", 1},
		{"A: x\na: y", 1},
		{"A: x\n y\nB: z\n#\na:", 4},
		{"A: x\n\nB: x\nA: x\nb: x", 4},

		{"A: x\nx\n x\n\n x", 1},
		{"A: x\nA: x\nx", 1},
		{"A: x\n .\nA: x", 1},
	} {
		parses(t, c.s, nil, c.place)
	}
}

// Promise 2.2: a NAME is at most MaxName bytes, a stanza at most MaxFields fields.
func TestParseMany(t *testing.T) {
	parses(t, long(24)+": x", [][]api.Field{list(long(24), "x")}, -1)
	parses(t, long(25)+": x", nil, 0)
	var b strings.Builder
	for _, f := range numbered(41) {
		b.WriteString(f.Name + ": x\n")
	}
	most := strings.TrimSuffix(b.String(), "f40: x\n")
	parses(t, most, [][]api.Field{numbered(40)}, -1)
	parses(t, most+"\n"+most, [][]api.Field{numbered(40), numbered(40)}, -1)
	parses(t, most+"# y\n x\n", [][]api.Field{append(numbered(39), list("f39", "x\nx")...)}, -1)
	parses(t, b.String(), nil, 40)
	parses(t, most+"\n#\n"+b.String(), nil, 82)
	parses(t, most+" y\n#\nZ: z", nil, 42)
}

// Promise 2.2: of all bytes just those that are named may stand in names and lines.
func TestParseBytes(t *testing.T) {
	for c := range 256 {
		s := string([]byte{byte(c)})
		if c == '\n' {
			continue
		}
		wrong := func(ok bool, place int) int {
			if ok {
				return -1
			}
			return place
		}
		line := c >= 32 && c != 127 || c == '\t'
		parses(t, "A: x"+s+"x", [][]api.Field{list("A", "x"+s+"x")}, wrong(line, 0))
		parses(t, "A:\n x"+s+"x", [][]api.Field{list("A", "\nx"+s+"x")}, wrong(line, 1))
		if c != ':' {
			name := 33 <= c && c <= 126
			parses(t, "A"+s+"A: x", [][]api.Field{list("A"+s+"A", "x")}, wrong(name, 0))
		}
	}
}

// Promise 2.2: a stanza may be of any length.
func TestParseLong(t *testing.T) {
	parses(t, "A: "+long(1_000_000), [][]api.Field{list("A", long(1_000_000))}, -1)
	more := strings.Repeat("\ny", 1_000_000)
	parses(t, "A: x"+strings.ReplaceAll(more, "y", " y"), [][]api.Field{list("A", "x"+more)}, -1)
	got, err := stanza.Parse(strings.Repeat("A: x\n\n", 500_000) + "x")
	var at *api.At
	if len(got) > 0 || !errors.As(err, &at) || at.Place != 1_000_000 {
		t.Errorf("Parse of many stanzas and a wrong line = %d stanzas, %v", len(got), err)
	}
	if got, err := stanza.Parse(strings.Repeat("A: x\n\n", 500_000)); len(got) != 500_000 || err != nil {
		t.Errorf("Parse of many stanzas = %d, %v", len(got), err)
	}
}

var (
	emptyLine = regexp.MustCompile(`^[ \t]*$`)
	otherLine = regexp.MustCompile(`^[ \t]+(?:([^. \t].*?)|\.(\..*?))[ \t]*$`)
	fieldLine = regexp.MustCompile(`^([!-"$-,./-9;-~][!-9;-~]{0,23}):[ \t]*(.*?)[ \t]*$`)
)

// read is Parse, told another way (of few lines without control bytes): the stanzas, or the line that is wrong.
func read(s string) ([][]api.Field, int) {
	var all [][]api.Field
	open := false
	for i, line := range strings.Split(s, "\n") {
		if strings.HasPrefix(line, "#") {
			continue
		}
		if emptyLine.MatchString(line) {
			open = false
			continue
		}
		if m := otherLine.FindStringSubmatch(line); m != nil && open {
			last := all[len(all)-1]
			last[len(last)-1].Value += "\n" + m[1] + m[2]
			continue
		}
		m := fieldLine.FindStringSubmatch(line)
		if m == nil {
			return nil, i
		}
		if !open {
			all = append(all, nil)
		}
		last := &all[len(all)-1]
		for _, f := range *last {
			if strings.EqualFold(f.Name, m[1]) {
				return nil, i
			}
		}
		*last, open = append(*last, list(m[1], m[2])...), true
	}
	return all, -1
}

// Promise 2.2: all short texts, by themselves and behind a field, are read as another way reads them.
func TestParseAll(t *testing.T) {
	for _, s := range texts("aA:#.- \t\n", 4) {
		for _, ahead := range []string{"", "a: x\n", "B:\n\nb:\n c\n"} {
			for _, behind := range []string{"", "\n d", "\nA: y"} {
				text := ahead + s + behind
				want, place := read(text)
				parses(t, text, want, place)
			}
		}
	}
	for _, s := range texts("a:. \n", 7) {
		want, place := read(s)
		parses(t, s, want, place)
	}
}

// Promises 2.1, 2.2: what is written is read as it was.
func TestPrintParse(t *testing.T) {
	values := texts("a.# \t:\n", 5)
	for i, v := range values {
		l := list("A", v, "b-", values[len(values)-1-i], "C", "")
		s, err := stanza.Print(l)
		if err != nil {
			continue
		}
		parses(t, s, [][]api.Field{l}, -1)
		parses(t, "# x\n"+s+" \n"+s+"\n", [][]api.Field{l, l}, -1)
	}
	for _, v := range values {
		l := list("A", v)
		if s, err := stanza.Print(l); err == nil {
			parses(t, s, [][]api.Field{l}, -1)
		}
	}
	whole := append(numbered(39), list("Last", long(3000))...)
	s, err := stanza.Print(whole)
	if err != nil {
		t.Fatal(err)
	}
	parses(t, s, [][]api.Field{whole}, -1)
}

// Promises 2.1, 2.2: what Parse reads is Right, if it is not too long.
func TestParseRight(t *testing.T) {
	for _, s := range texts("aA:. \n", 6) {
		l, _ := stanza.Parse(s)
		for _, x := range l {
			if !stanza.Right(x) {
				t.Errorf("Parse(%q) has %s, which is not Right", s, show(x))
			}
		}
	}
}

// Promise 2.2: the stanzas that are read share no memory.
func TestParseApart(t *testing.T) {
	l, err := stanza.Parse("A: a\nB: b\n\nC: c\nD: d\n\nE: e\n")
	if err != nil || len(l) != 3 {
		t.Fatal(l, err)
	}
	for i := range l {
		longer := append(l[i], list("Z", "z", "Z", "z", "Z", "z")...)
		longer[0].Value = "changed"
	}
	l[0][0].Name = "changed"
	if want := list("C", "c", "D", "d"); l[1][0].Name != "C" || l[1][1] != want[1] || l[2][0].Name != "E" {
		t.Errorf("a stanza changed with another one: %s", show(l))
	}
}
