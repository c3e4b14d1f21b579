package desk_test

import (
	"strings"
	"testing"

	"stevedore/api"
	"stevedore/desk"
)

// answers holds what a session answers against what is told of each line: an input, " => ", and the answer.
func answers(t *testing.T, l ...string) {
	t.Helper()
	var in, want []string
	for _, s := range l {
		line, answer, ok := strings.Cut(s, " => ")
		if !ok {
			t.Fatalf("no answer is told of %q", s)
		}
		in, want = append(in, line), append(want, answer)
	}
	got := strings.Split(desk.Session(strings.Join(in, "\n")), "\n")
	if len(got) != len(in)+1 || got[len(in)] != "" {
		t.Fatalf("%q: %q: not one line a line", in, got)
	}
	for i, line := range in {
		if got[i] != want[i] {
			t.Errorf("behind %q: %q: %.300q, the document asks %q", in[max(0, i-5):i], line, got[i], want[i])
		}
	}
}

// adds are lines that add a package's bytes, and their answers.
func adds(s string) []string {
	var l []string
	for line := range strings.Lines(s) {
		l = append(l, "add "+strings.TrimSuffix(line, "\n")+" => add")
	}
	return l
}

// aa has a file and a setting, bb asks for aa, cc listens for bin. Lines of a field begin with a tab: a blank would part words, and be lost.
const (
	aa = "Package: aa\nVersion: 1.0\nConffiles:\n\tetc/x\n\nbin/x 2\nhi\netc/x 3\nold\n"
	bb = "Package: bb\nVersion: 2.0\nDepends: aa\n\n"
	cc = "Package: cc\nVersion: 1.0\nTriggers:\n\tbin\n\n"
)

// join are lines of several lists.
func join(lists ...[]string) []string {
	var l []string
	for _, x := range lists {
		l = append(l, x...)
	}
	return l
}

// Promise 13.1: a text of more than MaxText bytes is answered by an error alone.
func TestLong(t *testing.T) {
	for _, s := range []string{strings.Repeat("x", api.MaxText+1), strings.Repeat("\n", api.MaxText+1), strings.Repeat("help\n", api.MaxText)} {
		if got := desk.Session(s); got != "error 4\n" {
			t.Errorf("%d bytes: %.100q", len(s), got)
		}
	}
	if got := desk.Session(strings.Repeat("x", api.MaxText)); got != "error 3\n" {
		t.Errorf("MaxText bytes, one word: %.100q", got)
	}
	if got := desk.Session(strings.Repeat("\n", api.MaxText)); got != strings.Repeat("ok\n", api.MaxText) {
		t.Errorf("MaxText line feeds: %d bytes: %.100q", len(got), got)
	}
}

// Promise 13.1: lines are cut at line feeds; one at the end is left out; the empty text is a line.
func TestLines(t *testing.T) {
	for in, want := range map[string]string{
		"":                "ok\n",
		"\n":              "ok\n",
		"\n\n":            "ok\nok\n",
		"\n\n\n":          "ok\nok\nok\n",
		"tidy":            "tidy\n",
		"tidy\n":          "tidy\n",
		"tidy\n\n":        "tidy\nok\n",
		"\ntidy":          "ok\ntidy\n",
		"tidy\nnames":     "tidy\nnames\n",
		"tidy\n\nnames\n": "tidy\nok\nnames\n",
		"tidy\r\nnames":   "error 3\nnames\n",
		"tidy\x00names":   "error 3\n",
		"tidy\u2028names": "error 3\n",
	} {
		if got := desk.Session(in); got != want {
			t.Errorf("%q: %q, the document asks %q", in, got, want)
		}
	}
}

// Promise 13.1: words have blanks between, several, too, and at both ends; nothing else parts them.
func TestBlanks(t *testing.T) {
	for in, want := range map[string]string{
		" ":                       "ok",
		"     ":                   "ok",
		"  tidy  ":                "tidy",
		"compare 1  2":            "-1",
		"   compare   2   1   ":   "1",
		"asks   aa  |   bb , cc ": "asks aa | bb, cc",
		"\t":                      "error 3",
		"tidy\t":                  "error 3",
		"\ttidy":                  "error 3",
		"compare\t1\t2":           "error 3",
		"compare 1\t2":            "error 3",
		"compare 1\t 2":           "error 3",
		"tidy\r":                  "error 3",
		"tidy\v":                  "error 3",
		"tidy\u00a0":              "error 3",
		"compare 1\u00a02":        "error 3",
		"\u3000":                  "error 3",
		"\xff":                    "error 3",
		"\xa0":                    "error 3",
		"compare 1\xa02":          "error 3",
		"state \xff":              "0 - free - -",
		"state \u00a0":            "0 - free - -",
	} {
		if got := desk.Session(in); got != want+"\n" {
			t.Errorf("%q: %q, the document asks %q", in, got, want)
		}
	}
}

// Promise 13.1: compare tells -1, 0, 1 of versions that are Parsed.
func TestCompare(t *testing.T) {
	answers(t,
		"compare 1.0~a 1.0 => -1", "compare 1.0 1.0~a => 1", "compare 1.0 1.0 => 0", "compare 1.0 1.00 => 0",
		"compare 1.9 1.10 => -1", "compare 1:0 9 => 1", "compare 0:1 1 => 0", "compare 1-1 1-2 => -1",
		"compare 1 999999999999999999999999 => -1", "compare 999999999999999999999999 1 => 1",
		"compare x 1 => error 3", "compare 1 x => error 3", "compare 1- 1 => error 3", "compare 01:1 1 => error 3",
		"compare "+strings.Repeat("1", 40)+" 1 => 1", "compare "+strings.Repeat("1", 41)+" 1 => error 3")
}

// Promise 13.1: asks tells what Terms reads, as Print writes it.
func TestAsks(t *testing.T) {
	thirty := strings.TrimSuffix(strings.Repeat("aa, ", 30), ", ")
	answers(t,
		"asks aa => asks aa", "asks aa,bb|cc => asks aa, bb | cc", "asks aa (>= 1) | bb, cc => asks aa (>= 1) | bb, cc",
		"asks aa(>=1)|bb => asks aa (>= 1) | bb", "asks => asks ", "asks   => asks ",
		"asks aa\t,bb => asks aa, bb", "asks \t => asks ",
		"asks aa, => error 3", "asks aa bb => error 3", "asks a => error 3", "asks aa (> 1) => error 3", "asks aa ( >= 1) => error 3",
		"asks "+thirty+" => asks "+thirty, "asks "+thirty+",aa => error 4", "asks "+thirty+",a => error 3", "asks "+thirty+",aa,a => error 4")
}

// Promise 13.1: what was added, each with a line feed behind, is unpacked; and is forgotten then, whatever comes of it, but behind a line that is of another form.
func TestUnpack(t *testing.T) {
	answers(t, join([]string{"unpack => error 3"}, adds(aa), []string{"names => names", "unpack => unpack", "names => names aa", "state aa => 3 1.0 free - -",
		"read bin/x => \"hi\" aa", "read etc/x => \"old\" aa", "files aa => files bin/x etc/x", "unpack => error 3", "names => names aa"})...)
	// Words have one blank between, as they are added.
	answers(t, "add   Package:    aa   => add", "add Version:1 => add", "add => add", "add f 5 => add", "add  a   b c   => add", "unpack => unpack", "read f => \"a%20b%20c\" aa")
	// A line without a word behind is an empty one, and so is a line feed of a file.
	answers(t, "add Package:aa => add", "add Version:1 => add", "add => add", "add f 3 => add", "add => add", "add x => add", "add => add", "unpack => unpack", "read f => \"%0ax%0a\" aa")
	// What was added in part goes on behind other lines.
	answers(t, "add Package:aa => add", "tidy => tidy", " => ok", "x => error 3", "crash 0 => crash", "add Version:1 => add", "add => add", "unpack => unpack", "names => names aa")
	// Behind ErrForm of a y or n it is still there; behind any other error it is not.
	answers(t, join(adds(bb), []string{"unpack z => error 3", "unpack y n yy => error 3", "unpack Y => error 3", "unpack y y n => unpack", "names => names bb"})...)
	answers(t, join(adds(bb), []string{"ends n => ends", "unpack => error 13", "unpack => error 3"}, adds(bb), []string{"unpack => unpack"})...)
	answers(t, join(adds(bb+"x"), []string{"unpack => error 3"}, adds(bb), []string{"unpack => unpack"})...)
	answers(t, join(adds(bb), []string{"cut 0 => cut", "unpack => error 14", "crash 0 => crash", "unpack => error 3"})...)
	// More than an archive may have.
	answers(t, "add "+strings.Repeat("x", 3999)+" => add", "unpack => error 3", "add "+strings.Repeat("x", 4000)+" => add", "unpack => error 4", "unpack => error 3")
}

// Promise 13.1: the answers of unpack are those of Put.
func TestUnpackAnswers(t *testing.T) {
	next := strings.Replace(aa, "old", "new", 1)
	for words, want := range map[string]string{"": "mine", " n": "mine", " y": "new", " n y": "mine", " y n": "new"} {
		answers(t, join(adds(aa), []string{"unpack => unpack", "edit etc/x mine => edit"}, adds(next), []string{"unpack" + words + " => unpack", "read etc/x => \"" + want + "\" aa"})...)
	}
}

// Promise 13.1: configure, all, helps, remove, purge, hold tell the word (all: how many), or the crew's errors.
func TestCrew(t *testing.T) {
	answers(t, join(adds(bb), []string{"unpack => unpack", "configure bb => error 7", "all => 0"}, adds(aa), []string{"unpack => unpack", "configure zz => error 7",
		"all => 2", "all => 0", "state aa => 7 1.0 free - -", "state bb => 7 2.0 free - -", "configure aa => error 6",
		"remove aa => error 10", "hold bb y => hold", "state bb => 7 2.0 held - -", "remove bb => error 6", "purge bb => error 6", "hold bb n => hold",
		"remove bb => remove", "remove bb => error 7", "state bb => 0 - free - -", "remove aa => remove", "state aa => 1 1.0 free - -", "files aa => files etc/x",
		"remove aa => remove", "purge aa => purge", "state aa => 0 - free - -", "purge aa => error 7", "hold aa y => error 7", "helps aa => error 7"})...)
	answers(t, join(adds(cc), []string{"unpack => unpack", "configure cc => configure", "helps cc => error 6"}, adds(aa), []string{"unpack => unpack", "configure aa => configure",
		"state aa => 5 1.0 free cc -", "state cc => 6 1.0 free - bin", "audit => audit aa cc", "helps cc => helps", "state aa => 7 1.0 free - -", "audit => audit", "names => names aa cc",
		"calls => calls cc 1 true, cc 2 true, aa 1 true, aa 2 true, cc 4 true"})...)
	// A file that is another one's.
	answers(t, join(adds(aa), []string{"unpack => unpack"}, adds("Package:dd\nVersion:1\n\nbin/x 0\n\n"), []string{"unpack => error 9", "names => names aa"})...)
	// A purge of what was not removed takes the settings, too.
	answers(t, join(adds(aa), []string{"unpack => unpack", "purge aa => purge", "names => names", "files aa => files", "read etc/x => error 7"})...)
}

// Promise 13.1: ends, and calls, with true and false.
func TestEnds(t *testing.T) {
	answers(t, join([]string{"calls => calls ", "ends n y n => ends"}, adds(bb), []string{"unpack => error 13"}, adds(aa), []string{"unpack => unpack", "configure aa => error 13",
		"configure aa => configure", "calls => calls bb 1 false, aa 1 true, aa 2 false, aa 2 true",
		"ends n => ends", "ends => ends", "remove aa => remove", "calls => calls bb 1 false, aa 1 true, aa 2 false, aa 2 true, aa 3 true"})...)
	// A line that is of another form leaves them as they are.
	answers(t, join([]string{"ends n => ends", "ends y x => error 3"}, adds(bb), []string{"unpack => error 13"})...)
}

// Promise 13.1: edit lets words lie at a path, with one blank between, or, without any, nothing.
func TestEdit(t *testing.T) {
	answers(t, join([]string{"edit etc/x mine => error 7", "edit etc/x => error 7"}, adds(aa), []string{"unpack => unpack",
		"edit etc/x mine => edit", "read etc/x => \"mine\" aa", "edit  bin/x  a   b   => edit", "read bin/x => \"a%20b\" aa",
		"edit etc/x => edit", "read etc/x => error 7", "edit etc/x => error 7", "edit etc/x y => edit", "read etc/x => \"y\" aa", "edit etc/z mine => error 7",
		"cut 0 => cut", "edit etc/x mine => error 14", "edit etc/x => error 14", "read etc/x => \"y\" aa"})...)
}

// Promise 13.1: a text is shown between two " : bytes from 33 to 126, but % , as they are, others as % and two of 0 to 9, a to f.
func TestShown(t *testing.T) {
	const digits = "0123456789abcdef"
	var edits []string
	for c := range 256 {
		if c == '\n' || c == ' ' {
			continue
		}
		want := "%" + string(digits[c>>4]) + string(digits[c&15])
		if 33 <= c && c <= 126 && c != '%' {
			want = string(rune(c))
		}
		data := string([]byte{byte(c)})
		edits = append(edits, "edit bin/x "+data+" => edit", "read bin/x => \""+want+"\" aa")
	}
	answers(t, join(adds(aa), []string{"unpack => unpack"}, edits)...)
	answers(t, join(adds("Package:aa\nVersion:1\n\nf 0\n\ng 1\n\n\n"), []string{"unpack => unpack", "read f => \"\" aa", "read g => \"%0a\" aa", "edit f \"a%20\" \xc3\xa9 => edit", "read f => \"\"a%2520\"%20%c3%a9\" aa"})...)
}

// Promise 13.1: the power and the room of the disk; room is at most 10^6.
func TestDisk(t *testing.T) {
	answers(t, "room 1000000 => room", "room 1000001 => error 2", "room 9223372036854775807 => error 2", "room -1 => room", "room -9223372036854775808 => room", "room 0 => room",
		"cut 1000001 => cut", "cut 9223372036854775807 => cut", "cut -9223372036854775808 => cut", "cut -1 => cut", "cut 0 => cut")
	// A room that is too great leaves the one that there is.
	answers(t, join([]string{"room 0 => room", "room 1000001 => error 2"}, adds(aa), []string{"unpack => error 12", "unpack => error 14", "room -1 => room"}, adds(aa), []string{"unpack => error 14", "tidy => error 6", "crash 0 => crash"}, adds(aa), []string{"unpack => unpack"})...)
	answers(t, join([]string{"room 0 => room", "room -1 => room"}, adds(aa), []string{"unpack => unpack"})...)
	// The power goes off, and stays off until it is cut otherwise, or comes back.
	answers(t, join(adds(bb), []string{"unpack => unpack", "cut 0 => cut", "edit x y => error 7", "configure bb => error 7", "hold bb y => error 14", "hold bb y => error 14", "all => error 14", "remove bb => error 14",
		"cut -1 => cut", "hold bb y => error 14", "crash 0 => crash", "hold bb y => hold", "state bb => 3 2.0 held - -"})...)
}

// Promise 13.1: crash lets the power come back, and opens the crew anew: what scripts did, and how they end, is forgotten; what was added, and the room, are not.
func TestCrash(t *testing.T) {
	answers(t, join(adds(aa), []string{"unpack => unpack", "ends n => ends", "calls => calls aa 1 true", "crash 5 => crash", "calls => calls ", "configure aa => configure", "calls => calls aa 2 true",
		"state aa => 7 1.0 free - -", "read bin/x => \"hi\" aa", "crash -9223372036854775808 => crash", "crash 9223372036854775807 => crash", "names => names aa", "crash 0 => crash", "files aa => files bin/x etc/x"})...)
	answers(t, join(adds(aa), []string{"crash 0 => crash", "unpack => unpack", "room 0 => room", "crash 0 => crash", "edit etc/x mine => error 12", "room -1 => room", "edit etc/x mine => edit"})...)
	// One that is of another form lets nothing come back.
	answers(t, join([]string{"cut 0 => cut", "crash x => error 3", "crash => error 3", "crash 0 0 => error 3"}, adds(aa), []string{"unpack => error 14"})...)
}

// Promise 13.1: help tells all words.
func TestHelp(t *testing.T) {
	const all = "add all asks audit calls compare configure crash cut edit ends files help helps hold names purge read remove room state tidy unpack"
	answers(t, "help => "+all, "help x => error 3", "helps => error 3")
}

// Promise 13.1: there is a crew over a new disk at first, in each session.
func TestNew(t *testing.T) {
	text := "names\ncalls\nunpack\nadd Package: aa\nadd Version: 1\nadd\nends y n\nunpack\nall\nadd x\nroom 0\ncut 0\n"
	want := "names\ncalls \nerror 3\nadd\nadd\nadd\nends\nunpack\n0\nadd\nroom\ncut\n"
	for range 3 {
		if got := desk.Session(text); got != want {
			t.Errorf("%q, the document asks %q", got, want)
		}
	}
}
