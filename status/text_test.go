package status_test

import (
	"reflect"
	"regexp"
	"slices"
	"strings"
	"testing"

	"stevedore/api"
	"stevedore/status"
	"stevedore/version"
)

// same says whether two are the same; empty lists are nothing.
func same(a, b status.Status) bool {
	return a.State == b.State && a.Version == b.Version && a.Held == b.Held && slices.Equal(a.Waits, b.Waits) && slices.Equal(a.Tasks, b.Tasks)
}

// refuses tests that Parse tells ErrForm, and nothing beside it.
func refuses(t *testing.T, s string) {
	t.Helper()
	got, err := status.Parse(s)
	if !reflect.DeepEqual(got, status.Status{}) || err != api.ErrForm {
		t.Errorf("Parse(%.200q) = %s, %v, want ErrForm", s, show(got), err)
	}
}

// Promise 8.2: what is written, and read as it was.
func TestText(t *testing.T) {
	one := api.Version{Upstream: "1.0"}
	long4 := list("a"+long(api.MaxName-1), "b"+long(api.MaxName-1), "c"+long(api.MaxName-1), "d"+long(api.MaxName-1))
	for _, c := range []struct {
		s    status.Status
		want string
	}{
		{status.Status{}, "0 - free - -"},
		{status.Status{Waits: list(), Tasks: list()}, "0 - free - -"},
		{status.Status{State: api.Config, Version: one}, "1 1.0 free - -"},
		{status.Status{State: api.Half, Version: one, Held: true}, "2 1.0 held - -"},
		{status.Status{State: api.Unpacked, Version: api.Version{Epoch: 3, Upstream: "1:0-1~a", Revision: "2"}}, "3 3:1:0-1~a-2 free - -"},
		{status.Status{State: api.HalfDone, Version: one}, "4 1.0 free - -"},
		{status.Status{State: api.Awaited, Version: one, Waits: list("aa")}, "5 1.0 free aa -"},
		{status.Status{State: api.Awaited, Version: one, Waits: list("aa", "bb", "c-", "d.0"), Tasks: list("bin")}, "5 1.0 free aa,bb,c-,d.0 bin"},
		{status.Status{State: api.Awaited, Version: one, Held: true, Waits: list("aa", "aaa"), Tasks: list("bin", "etc")}, "5 1.0 held aa,aaa bin,etc"},
		{status.Status{State: api.Pending, Version: one, Tasks: list("bin")}, "6 1.0 free - bin"},
		{status.Status{State: api.Pending, Version: one, Tasks: list("--", "-a")}, "6 1.0 free - --,-a"},
		{status.Status{State: api.Installed, Version: one}, "7 1.0 free - -"},
		{status.Status{State: api.Installed, Version: one, Held: true}, "7 1.0 held - -"},
		{
			status.Status{State: api.Awaited, Version: api.Version{Upstream: strings.Repeat("1", api.MaxVersion)}, Waits: long4, Tasks: list("a"+long(59), "b"+long(59))},
			"5 " + strings.Repeat("1", api.MaxVersion) + " free " + strings.Join(long4, ",") + " a" + long(59) + ",b" + long(59),
		},
	} {
		text, err := status.Print(c.s)
		if text != c.want || err != nil {
			t.Errorf("Print(%s) = %q, %v, want %q", show(c.s), text, err, c.want)
		}
		got, err := status.Parse(c.want)
		if !same(got, c.s) || err != nil {
			t.Errorf("Parse(%q) = %s, %v, want %s", c.want, show(got), err, show(c.s))
		}
		// A line that is kept has at most 300 bytes.
		if len(text) > 300 {
			t.Errorf("%q has %d bytes", text, len(text))
		}
	}
}

// Promise 8.2: texts that Print never tells.
func TestParseWrong(t *testing.T) {
	for _, s := range []string{
		"", " ", "-", "0", "0 -", "0 - free", "0 - free -", "0 - free - - ", "0 - free - - -", " 0 - free - -",
		"0  - free - -", "0 - free  - -", "0 - free -  -", "0\t- free - -", "0 - free - -\n", "\n0 - free - -", "0,-,free,-,-",
		"0 - held - -", "0 1.0 free - -", "0  free - -", "0 - free aa -", "0 - free - bin", "0 -- free - -", "0 0 free - -",
		"7 - free - -", "7  free - -", "7 a free - -", "7 0:1.0 free - -", "7 00:1.0 free - -", "7 01:1.0 free - -", "7 1.0- free - -", "7 1:2 free  -",
		"-1 1.0 free - -", "8 1.0 free - -", "9 1.0 free - -", "10 1.0 free - -", "07 1.0 free - -", "+7 1.0 free - -", "-0 - free - -", "00 - free - -", "7.0 1.0 free - -",
		"0x7 1.0 free - -", "x 1.0 free - -", " 1.0 free - -", "- 1.0 free - -", "7_ 1.0 free - -", "18446744073709551623 1.0 free - -", "Installed 1.0 free - -",
		"7 1.0 Free - -", "7 1.0 HELD - -", "7 1.0 fre - -", "7 1.0 freed - -", "7 1.0 - - -", "7 1.0  - -", "7 1.0 true - -", "7 1.0 helds - -",
		"7 1.0 free aa -", "7 1.0 free - bin", "7 1.0 free aa bin", "7 1.0 free  -", "7 1.0 free - ", "7 1.0 free  ", "7 1.0 free -- -", "7 1.0 free , -", "7 1.0 free - ,", "7 1.0 free -,- -",
		"5 1.0 free - -", "5 1.0 free - bin", "5 1.0 free  -", "5 1.0 free a -", "5 1.0 free aa, -", "5 1.0 free ,aa -", "5 1.0 free aa,,bb -", "5 1.0 free bb,aa -", "5 1.0 free aa,aa -",
		"5 1.0 free aa,- -", "5 1.0 free -,aa -", "5 1.0 free Aa -", "5 1.0 free aa bin,", "5 1.0 free aa bin,-", "5 1.0 free aa etc,bin", "5 1.0 free aa bin,bin", "5 1.0 free aa ",
		"5 1.0 free aa, bb -", "5 1.0 free aa,bb,cc,dd,ee -", "5 1.0 free aa,bb,cc,dd, -", "5 1.0 free aa a,b,c", "5 1.0 free aa a,b,",
		"6 1.0 free - -", "6 1.0 free aa -", "6 1.0 free aa bin", "6 1.0 free - ", "6 1.0 free - ,", "6 1.0 free - bin,", "6 1.0 free - ,bin", "6 1.0 free - -,bin", "6 1.0 free - +,-",
		"6 1.0 free - a\tb", "6 1.0 free - a\nb", "6 1.0 free - é", "6 1.0 free - a\x7f", "6 1.0 free - \x00", "6 1.0 free - a b", "6 1.0 free - " + long(61), "6 1.0 free - a," + long(61),
		"5 1.0 free " + long(api.MaxName+1) + " -", "7 " + strings.Repeat("1", api.MaxVersion+1) + " free - -",
		"\xff", "7\x00 1.0 free - -",
		strings.Repeat(" ", 1_000_000), strings.Repeat(",", 1_000_000), strings.Repeat("7", 1_000_000), "5 1.0 free " + strings.Repeat("aa,", 1_000_000) + "aa -",
		"6 1.0 free - " + strings.Repeat(",", 1_000_000), "7 1.0 free - -" + strings.Repeat(" -", 1_000_000),
	} {
		refuses(t, s)
	}
}

// The form of a text, from the document's words; what a form can't say (rising, versions) is held against it beside it.
var form = regexp.MustCompile(`^(?:0 - free - -|([1-7]) ([^ ]+) (held|free) (-|[a-z0-9][a-z0-9+.-]{1,23}(?:,[a-z0-9][a-z0-9+.-]{1,23}){0,3}) (-|[!-+\--~]{1,60}(?:,[!-+\--~]{1,60})?))$`)

// rising says whether a list, as it is written, rises, none of it twice, and no task is - alone.
func rising(s string) bool {
	l := strings.Split(s, ",")
	for i := range l {
		if i > 0 && l[i-1] >= l[i] || len(l) > 1 && l[i] == "-" {
			return false
		}
	}
	return true
}

// isText says whether a text is a status.
func isText(s string) bool {
	m := form.FindStringSubmatch(s)
	if m == nil {
		return false
	}
	if m[1] == "" {
		return true
	}
	v, err := version.Parse(m[2])
	waits, tasks := m[4] != "-", m[5] != "-"
	return err == nil && version.Print(v) == m[2] && rising(m[4]) && rising(m[5]) &&
		waits == (m[1] == "5") && (m[1] == "5" || tasks == (m[1] == "6"))
}

// agrees tests that Parse reads a text just if it is one, and that Print tells it then.
func agrees(t *testing.T, s string) bool {
	t.Helper()
	if !isText(s) {
		refuses(t, s)
		return false
	}
	got, err := status.Parse(s)
	if err != nil || !status.Right(got) {
		t.Errorf("Parse(%q) = %s, %v, want a status that is Right", s, show(got), err)
	}
	if text, err := status.Print(got); text != s || err != nil {
		t.Errorf("Print(Parse(%q)) = %q, %v", s, text, err)
	}
	return true
}

// Promise 8.2: all texts of some words, right ones and wrong ones.
func TestParseWords(t *testing.T) {
	n := 0
	lists := []string{"-", "", "aa", "bb", "aa,bb", "bb,aa", "aa,aa", "-,aa", "aa,-", "aa,bb,cc", "aa,bb,cc,dd", "aa,bb,cc,dd,ee", "a", "b,c", "A", "aa,", ",", "+,-"}
	for _, state := range []string{"-1", "0", "1", "2", "3", "4", "5", "6", "7", "8", "05", ""} {
		for _, v := range []string{"-", "", "1.0", "0:1.0", "1:1.0-1", "1-", "a"} {
			for _, h := range []string{"held", "free", "-", ""} {
				for _, waits := range lists {
					for _, tasks := range lists {
						if agrees(t, strings.Join(list(state, v, h, waits, tasks), " ")) {
							n++
						}
					}
				}
			}
		}
	}
	if n < 100 {
		t.Errorf("of all texts only %d are right", n)
	}
}

// Promise 8.2: texts of which a byte is another one, is gone, or stands twice.
func TestParseBent(t *testing.T) {
	for _, s := range list("0 - free - -", "7 3:1.0-2 held - -", "5 1.0 free aa,bb b,c", "5 1.0 held a+,a.,aa,ab -", "6 1 free - bin,etc", "6 1 free - -a") {
		if !agrees(t, s) {
			t.Fatalf("%q should be right", s)
		}
		for i := range len(s) {
			agrees(t, s[:i])
			agrees(t, s[i:])
			agrees(t, s[:i]+s[i+1:])
			for c := range 256 {
				b := string([]byte{byte(c)})
				agrees(t, s[:i]+b+s[i+1:])
				agrees(t, s[:i]+b+s[i:])
				agrees(t, s+b)
			}
		}
	}
}

// Promise 8.2: whatever is Right is read as it was, and no two are written alike.
func TestPrintParse(t *testing.T) {
	seen := map[string]status.Status{}
	lists := [][]string{nil, {"aa"}, {"aa", "bb"}, {"bb", "aa"}, {"aa,bb"}, {"aa bb"}, {"-"}, {"--"}, {"0-", "aa", "b.", "cc"}, {"aa", ""}, {""}}
	versions := []api.Version{{}, {Upstream: "1"}, {Upstream: "1", Revision: "1"}, {Epoch: 1, Upstream: "1"}, {Upstream: "1-1"}, {Upstream: "1:1"}, {Revision: "-"}, {Upstream: "-"}}
	for state := -1; state <= 8; state++ {
		for _, v := range versions {
			for _, h := range []bool{false, true} {
				for _, waits := range lists {
					for _, tasks := range lists {
						s := status.Status{State: state, Version: v, Held: h, Waits: waits, Tasks: tasks}
						text, err := status.Print(s)
						if !status.Right(s) {
							rights(t, s, false)
							continue
						}
						if got, fault := status.Parse(text); err != nil || fault != nil || !same(got, s) {
							t.Errorf("%s is written %q, %v, and read %s, %v", show(s), text, err, show(got), fault)
						}
						if other, ok := seen[text]; ok {
							t.Errorf("%s and %s are both written %q", show(s), show(other), text)
						}
						seen[text] = s
					}
				}
			}
		}
	}
	if len(seen) < 100 {
		t.Errorf("only %d are right", len(seen))
	}
}

// blot writes over a list, and over what stands behind its length.
func blot(l []string) {
	l = l[:cap(l)]
	for i := range l {
		l[i] = "changed"
	}
}

// P4: what comes out is the caller's: nothing that is done with it is seen elsewhere.
func TestFresh(t *testing.T) {
	const text = "5 1.0 free aa,bb bin,etc"
	want := status.Status{State: api.Awaited, Version: api.Version{Upstream: "1.0"}, Waits: list("aa", "bb"), Tasks: list("bin", "etc")}
	first, err := status.Parse(text)
	if err != nil {
		t.Fatal(err)
	}
	second, _ := status.Parse(text)
	blot(first.Waits)
	if !slices.Equal(first.Tasks, want.Tasks) {
		t.Errorf("Waits and Tasks share memory: Tasks are %q now", first.Tasks)
	}
	blot(first.Tasks)
	if !same(second, want) {
		t.Errorf("another answer is %s now", show(second))
	}
	waits, tasks := list("aa", "bb", "behind"), list("bin", "etc", "behind")
	s := want
	s.Waits, s.Tasks = waits[:2], tasks[:2]
	if got, err := status.Print(s); got != text || err != nil {
		t.Errorf("Print = %q, %v", got, err)
	}
	if !slices.Equal(waits, list("aa", "bb", "behind")) || !slices.Equal(tasks, list("bin", "etc", "behind")) {
		t.Errorf("Print changed what was handed in: %q, %q", waits, tasks)
	}
}
