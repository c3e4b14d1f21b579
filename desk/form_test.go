package desk_test

import (
	"slices"
	"strings"
	"testing"

	"stevedore/desk"
)

// forms are, of each word, what may stand behind it: .. is any many words, of the kind ahead of it, if that is Y.
var forms = map[string]string{
	"add": "..", "all": "", "asks": "..", "audit": "", "calls": "", "compare": "V V", "configure": "P", "crash": "N", "cut": "N", "edit": "PATH ..",
	"ends": "Y ..", "files": "P", "help": "", "helps": "P", "hold": "P Y", "names": "", "purge": "P", "read": "PATH", "remove": "P", "room": "N", "state": "P", "tidy": "", "unpack": "Y ..",
}

// fitting is a word of a kind.
var fitting = map[string]string{"V": "1.0", "P": "aa", "N": "7", "Y": "y", "PATH": "bin/x", "..": "aa"}

// have lets a package be there that all words may be said of: so that no word tells ErrForm for another reason than its form.
const have = "add Package: aa\nadd Version: 1\nadd\nadd bin/x 0\nadd\nunpack\nconfigure aa\nadd Package: bb\nadd Version: 1\nadd\n"

// isForm says whether a line, behind those of have, tells ErrForm.
func isForm(t *testing.T, line string) bool {
	t.Helper()
	got := desk.Session(have + line)
	if strings.Count(got, "\n") != strings.Count(have, "\n")+1 {
		t.Fatalf("%q: %q: not one line a line", line, got)
	}
	return strings.HasSuffix(got, "\nerror 3\n")
}

// line is a word, and n words behind it, which fit, if so many may stand there; false: they may not.
func line(word string, n int) (string, bool) {
	kinds := strings.Fields(forms[word])
	l := []string{word}
	for i := range n {
		kind := ".."
		if i < len(kinds) {
			kind = kinds[i]
		}
		if kind == ".." && forms[word] == "Y .." {
			kind = "Y"
		}
		if word == "asks" && i%2 == 1 {
			l = append(l, "|")
			continue
		}
		l = append(l, fitting[kind])
	}
	switch {
	case forms[word] == "Y ..":
		return strings.Join(l, " "), true
	case slices.Contains(kinds, ".."):
		return strings.Join(l, " "), n >= len(kinds)-1
	}
	return strings.Join(l, " "), n == len(kinds)
}

// Promise 13.1: ErrForm, unless just so many words stand behind the first one as are told.
func TestHowMany(t *testing.T) {
	for word := range forms {
		for n := range 7 {
			if word == "asks" && n > 0 && n%2 == 0 {
				// What ends in | asks for nothing that could be told.
				continue
			}
			text, ok := line(word, n)
			if isForm(t, text) == ok {
				t.Errorf("%q: is it ErrForm? %v", text, ok)
			}
		}
	}
	for _, word := range []string{"add", "ends", "unpack"} {
		text, _ := line(word, 3000)
		if isForm(t, text) {
			t.Errorf("%s, 3000 words: ErrForm", word)
		}
	}
}

// Promise 13.1: ErrForm, unless the first word is one of the table.
func TestFirstWord(t *testing.T) {
	for word := range forms {
		var others []string
		for _, s := range []string{strings.ToUpper(word), strings.ToUpper(word[:1]) + word[1:], word + "x", word + ":", word + "\x00", "x" + word, "\"" + word + "\"", "#" + word, word[1:], word[:len(word)-1]} {
			if _, ok := forms[s]; !ok {
				others = append(others, s)
			}
		}
		for n := range 3 {
			text, _ := line(word, n)
			_, behind, _ := strings.Cut(text, " ")
			for _, s := range others {
				if got := desk.Session(s + " " + behind); got != "error 3\n" {
					t.Errorf("%q: %q", s+" "+behind, got)
				}
			}
		}
	}
	for _, s := range []string{"x", "ok", "error", "error 3", "y", "0", "-", "..", "unpack,", "\x00", "hilfe", "quit", "list", "open", "install aa"} {
		if got := desk.Session(s); got != "error 3\n" {
			t.Errorf("%q: %q", s, got)
		}
	}
}

// Promise 13.1: N is a number: decimal, perhaps with - , no nought ahead, of 64 bits.
func TestNumbers(t *testing.T) {
	right := []string{"0", "1", "9", "10", "999999", "-1", "-9", "-10", "-1000001", "-9223372036854775807", "-9223372036854775808"}
	great := []string{"1000001", "9223372036854775807", "9223372036854775806", "4294967296"}
	wrong := []string{"x", "-", "--1", "+1", "+0", "-0", "00", "01", "-01", "007", "1.0", "1e3", "0x1", "1_000", "1,000", "-x", "1x", "x1", "\t1", "1\t", "\x00", "y", "\"1\"", "½", "١",
		"9223372036854775808", "-9223372036854775809", "18446744073709551616", "99999999999999999999999", "-99999999999999999999999"}
	for _, word := range []string{"cut", "room", "crash"} {
		for _, s := range right {
			if got := desk.Session(word + " " + s); got != word+"\n" {
				t.Errorf("%s %s: %q", word, s, got)
			}
		}
		for _, s := range great {
			want := word + "\n"
			if word == "room" {
				want = "error 2\n"
			}
			if got := desk.Session(word + " " + s); got != want {
				t.Errorf("%s %s: %q, the document asks %q", word, s, got, want)
			}
		}
		for _, s := range wrong {
			if got := desk.Session(word + " " + s); got != "error 3\n" {
				t.Errorf("%s %q: %q", word, s, got)
			}
		}
	}
}

// Promise 13.1: Y is y or n.
func TestYes(t *testing.T) {
	for _, s := range []string{"Y", "N", "yes", "no", "yy", "nn", "1", "0", "-", "true", "y,", "y\t", "\x00", "ý"} {
		for _, line := range []string{"hold aa " + s, "hold zz " + s, "ends " + s, "ends y " + s, "ends " + s + " n", "unpack " + s, "unpack n y " + s} {
			if !isForm(t, line) {
				t.Errorf("%q: no ErrForm", line)
			}
		}
	}
}

// Promise 13.1: what is of another form is told ahead of all else, and changes nothing.
func TestFormFirst(t *testing.T) {
	down := "add Package: aa\nadd Version: 1\nadd\nunpack\ncut 0\nhold aa y\n"
	for _, line := range []string{"hold aa z", "hold zz z", "hold aa", "hold", "unpack z", "ends z", "cut z", "room z", "room 01000001", "crash z", "configure", "configure aa aa", "tidy tidy", "all all", "state", "edit"} {
		got := desk.Session(down + line + "\nstate aa\nnames\nhold aa n\n")
		if want := "add\nadd\nadd\nunpack\ncut\nerror 14\nerror 3\n3 1 free - -\nnames aa\nerror 14\n"; got != want {
			t.Errorf("%q: %q, the document asks %q", line, got, want)
		}
	}
}
