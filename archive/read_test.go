package archive_test

import (
	"fmt"
	"regexp"
	"strconv"
	"strings"
	"testing"

	"stevedore/api"
	"stevedore/archive"
	"stevedore/record"
	"stevedore/stanza"
)

// reads tests Read: of an error nothing but it is told, and it has no place.
func reads(t *testing.T, s string, want api.Pack, err error) {
	t.Helper()
	if err != nil {
		want = api.Pack{}
	}
	got, e := archive.Read(s)
	if e != err || !same(got, want) || err != nil && len(got.Files) > 0 {
		t.Errorf("Read(%s) = %s, %v, want %s, %v", show(s), show(got), e, show(want), err)
	}
}

// Promise 5.2: what stands ahead of the first empty line is one stanza.
func TestReadHead(t *testing.T) {
	for _, c := range []struct {
		s   string
		err error
	}{
		{"", api.ErrForm},
		{"\n", api.ErrForm},
		{"\n\n", api.ErrForm},
		{"\n\n\n", api.ErrForm},
		{"Package: aa\nVersion: 1.0", api.ErrForm},
		{"Package: aa\nVersion: 1.0\n", api.ErrForm},
		{"Package: aa\nVersion: 1.0\n \n", api.ErrForm},
		{"Package: aa\nVersion: 1.0\n\t\n", api.ErrForm},
		{"Package: aa\nVersion: 1.0\r\n\r\n", api.ErrForm},
		{smallHead, nil},
		{"\n" + smallHead, nil},
		{" \n\t\n" + smallHead, nil},
		{"\n\n" + smallHead, api.ErrForm},
		{"#x\n" + smallHead, nil},
		{"#x\n\n" + smallHead, api.ErrForm},
		{"#x\n\n", api.ErrForm},
		{" \n\n", api.ErrForm},
		{"Package: aa\n#\nVersion: 1.0\n#x\n\n", nil},
		{"Package: aa\nVersion: 1.0\n \n\n", nil},
		{"Package: aa\n \nVersion: 1.0\n\n", api.ErrForm},
		{"Package: aa\n\t\nVersion: 1.0\n\n", api.ErrForm},
		{"Package: aa\n\nVersion: 1.0\n\n", api.ErrMissing},
		{smallHead + smallHead, api.ErrForm},
		{"Package: aa\nVersion: 1.0\n \nPackage: aa\nVersion: 1.0\n\n", api.ErrForm},
		{"version:1.0 \nPACKAGE:\taa\nOther: x\n y\n\n", nil},
		{"Package: aa\nVersion: 1.0\npackage: aa\n\n", api.ErrForm},
		{"Package: aa\nVersion: 1.0\nx\n\n", api.ErrForm},
		{"Package: aa\nVersion: 1.0\n: x\n\n", api.ErrForm},
		{" Package: aa\nVersion: 1.0\n\n", api.ErrForm},
		{"Package: aa\nVersion: 1.0\nX: \x01\n\n", api.ErrForm},
		{strings.Repeat("#\n", 1000) + smallHead, nil},
	} {
		reads(t, c.s, small(), c.err)
	}
	for _, n := range []int{40, 41} {
		s := "Package: aa\nVersion: 1.0"
		for i := range n - 2 {
			s += fmt.Sprint("\nX", i, ": x")
		}
		err := error(nil)
		if n > 40 {
			err = api.ErrForm
		}
		reads(t, s+"\n\n", small(), err)
	}
}

// Promise 5.2: the errors of what a package says of itself.
func TestReadRecord(t *testing.T) {
	over := strings.Repeat("bb,", 30) + "bb"
	for _, c := range []struct {
		s   string
		err error
	}{
		{"Package: aa", api.ErrMissing},
		{"Version: 1.0", api.ErrMissing},
		{"X: y", api.ErrMissing},
		{"Package: aa\nVersion: x", api.ErrForm},
		{"Package: aa\nVersion:", api.ErrForm},
		{"Package: a\nVersion: 1.0", api.ErrArg},
		{"Package:\nVersion: 1.0", api.ErrArg},
		{"Package: aa\nVersion: 1.0\nDepends: b", api.ErrForm},
		{"Package: aa\nVersion: 1.0\nDepends: " + over, api.ErrLimit},
		{"Package: aa\nVersion: 1.0\nBreaks: bb | cc", api.ErrForm},
		{"Package: aa\nVersion: 1.0\nProvides: " + over, api.ErrLimit},
		{"Package: aa\nVersion: 1.0\nProvides: bb (>= 1)", api.ErrArg},
		{"Package: aa\nVersion: 1.0\nConffiles: a", api.ErrForm},
		{"Package: aa\nVersion: 1.0\nTriggers:", api.ErrForm},
		{"Package: aa\nVersion: 1.0\nTriggers:\n /a", api.ErrArg},
		{"Package: aa\nVersion: 1.0\nConffiles:\n a\n a", api.ErrArg},
	} {
		// They are told ahead of what is wrong with files.
		for _, rest := range []string{"", "a 0\n\n", "a", "a 0\n\na 0\n\n", " 0\n\n"} {
			reads(t, c.s+"\n\n"+rest, api.Pack{}, c.err)
		}
	}
}

// Promise 5.2: ErrLimit, just if there are more than MaxBytes bytes, whatever they are.
func TestReadLimit(t *testing.T) {
	most := 4000 - len(smallHead+"a 1000\n\n")
	text := func(n int) string { return smallText(file("a", long(n))) }
	reads(t, text(most-1), small(file("a", long(most-1))), nil)
	reads(t, text(most), small(file("a", long(most))), nil)
	reads(t, text(most+1), api.Pack{}, api.ErrLimit)
	reads(t, text(most)+"\n", api.Pack{}, api.ErrLimit)
	for n, err := range map[int]error{3999: api.ErrForm, 4000: api.ErrForm, 4001: api.ErrLimit, 1_000_000: api.ErrLimit} {
		reads(t, long(n), api.Pack{}, err)
		reads(t, strings.Repeat("\n", n), api.Pack{}, err)
	}
	// Such fields would be written with more bytes, but are read.
	p, s := small(), "Package:aa\nVersion:1.0\nConflicts:"
	for i := range 30 {
		name := fmt.Sprint(long(22), 10+i)
		p.Against = append(p.Against, api.Term{Name: name})
		s += name + ","
	}
	s = strings.TrimSuffix(s, ",") + "\nX:" + long(4000)
	reads(t, s[:3998]+"\n\n", p, nil)
	reads(t, s[:3999]+"\n\n", p, api.ErrLimit)
}

// Promise 5.2: files, as they are written, and nothing else.
func TestReadFiles(t *testing.T) {
	for _, c := range []struct {
		s    string
		want []api.File
		err  error
	}{
		{"a 0\n\n", at("a"), nil},
		{"a 1\nx\n", []api.File{file("a", "x")}, nil},
		{"a 1\n\n\n", []api.File{file("a", "\n")}, nil},
		{"b 2\n\n\n\na 0\n\n", []api.File{file("b", "\n\n"), file("a", "")}, nil},
		{"a/b 10\n0123456789\n", []api.File{file("a/b", "0123456789")}, nil},
		{"\n", nil, api.ErrForm},
		{" ", nil, api.ErrForm},
		{"a", nil, api.ErrForm},
		{"a\n", nil, api.ErrForm},
		{"a\n\n", nil, api.ErrForm},
		{"a \n\n", nil, api.ErrForm},
		{"a 0", nil, api.ErrForm},
		{"a 0\n", nil, api.ErrForm},
		{"a 1\n\n", nil, api.ErrForm},
		{"a 1\nx", nil, api.ErrForm},
		{"a 1\nxx", nil, api.ErrForm},
		{"a 1\nxx\n", nil, api.ErrForm},
		{"a 2\nx\n", nil, api.ErrForm},
		{"a 3\nx\n", nil, api.ErrForm},
		{"a 0\nx\n", nil, api.ErrForm},
		{"a 00\n\n", nil, api.ErrForm},
		{"a 01\nx\n", nil, api.ErrForm},
		{"a +1\nx\n", nil, api.ErrForm},
		{"a -0\n\n", nil, api.ErrForm},
		{"a -1\nx\n", nil, api.ErrForm},
		{"a 0x1\nx\n", nil, api.ErrForm},
		{"a 1.0\nx\n", nil, api.ErrForm},
		{"a 1_0\n0123456789\n", nil, api.ErrForm},
		{"a 1 \nx\n", nil, api.ErrForm},
		{"a  1\nx\n", nil, api.ErrForm},
		{"a\t1\nx\n", nil, api.ErrForm},
		{"a 1\r\nx\n", nil, api.ErrForm},
		{"a b 1\nx\n", nil, api.ErrForm},
		{"a\nb 1\nx\n", nil, api.ErrForm},
		{"a 9223372036854775807\nx\n", nil, api.ErrForm},
		{"a 9223372036854775808\nx\n", nil, api.ErrForm},
		{"a 18446744073709551617\nx\n", nil, api.ErrForm},
		{"a -9223372036854775808\nx\n", nil, api.ErrForm},
		{"a " + strings.Repeat("9", 3000) + "\nx\n", nil, api.ErrForm},
		{"a 0\n\n\n", nil, api.ErrForm},
		{"a 0\n\n\nb 0\n\n", nil, api.ErrForm},
		{"a 0\n\nb", nil, api.ErrForm},
		{"a 0\n\n#b 0\n", nil, api.ErrForm},
		{"a 0\n\n ", nil, api.ErrForm},
	} {
		reads(t, smallHead+c.s, small(c.want...), c.err)
	}
}

// Promise 5.2: ErrArg, unless it is Right, behind what is wrong with the form of any file.
func TestReadWrong(t *testing.T) {
	for _, s := range []string{
		" 0\n\n",
		"/ 0\n\n",
		"/a 1\nx\n",
		"a/ 1\nx\n",
		"a//b 1\nx\n",
		"a,b 1\nx\n",
		"#a 0\n\n",
		"\x01 0\n\n",
		"\xff 0\n\n",
		"a\t 0\n\n",
		long(61) + " 0\n\n",
		"a 0\n\na 0\n\n",
		"a 1\nx\nb 0\n\na 1\nx\n",
		"a 0\n\na/b 0\n\n",
		"a/b 0\n\na 0\n\n",
		strings.Repeat(" 0\n\n", 900),
	} {
		reads(t, smallHead+s, api.Pack{}, api.ErrArg)
		reads(t, smallHead+"z 1\nx\n"+s, api.Pack{}, api.ErrArg)
		reads(t, smallHead+s+"z", api.Pack{}, api.ErrForm)
		reads(t, smallHead+s+"z 0\nx\n", api.Pack{}, api.ErrForm)
	}
	for n := 19; n < 30; n++ {
		s := smallHead
		for _, path := range paths(n) {
			s += path + " 0\n\n"
		}
		err := error(nil)
		if n > 20 {
			err = api.ErrArg
		}
		reads(t, s, small(at(paths(n)...)...), err)
	}
}

// Promise 5.2: settings are paths of files.
func TestReadSettings(t *testing.T) {
	head := "Package: aa\nVersion: 1.0\nConffiles:\n etc/x\nTriggers:\n bin\n\n"
	p := small(at("etc/x")...)
	p.Settings, p.Listens = []string{"etc/x"}, []string{"bin"}
	reads(t, head+"etc/x 0\n\n", p, nil)
	reads(t, head, api.Pack{}, api.ErrArg)
	reads(t, head+"etc/y 0\n\n", api.Pack{}, api.ErrArg)
	reads(t, head+"etc 0\n\n", api.Pack{}, api.ErrArg)
	reads(t, head+"etc/x/y 0\n\n", api.Pack{}, api.ErrArg)
	reads(t, head+"etc/x 0\n", api.Pack{}, api.ErrForm)
}

var fileLine = regexp.MustCompile(`^([^ \n]*) (0|[1-9][0-9]{0,5})\n`)

// told is what the document asks of Read, told in another way.
func told(s string) (api.Pack, error) {
	i := strings.Index(s, "\n\n")
	if i < 0 {
		return api.Pack{}, api.ErrForm
	}
	l, err := stanza.Parse(s[:i])
	if err != nil || len(l) != 1 {
		return api.Pack{}, api.ErrForm
	}
	p, err := record.Read(l[0])
	if err != nil {
		return api.Pack{}, err
	}
	s = s[i+2:]
	for len(s) > 0 {
		m := fileLine.FindStringSubmatch(s)
		if m == nil {
			return api.Pack{}, api.ErrForm
		}
		n, _ := strconv.Atoi(m[2])
		if s = s[len(m[0]):]; len(s) < n+1 || s[n] != '\n' {
			return api.Pack{}, api.ErrForm
		}
		p.Files = append(p.Files, file(m[1], s[:n]))
		s = s[n+1:]
	}
	if !archive.Right(p) {
		return api.Pack{}, api.ErrArg
	}
	return p, nil
}

// Promise 5.2: all short texts behind a head.
func TestReadAll(t *testing.T) {
	for _, s := range texts(" 0a1\n", 7) {
		want, err := told(smallHead + s)
		reads(t, smallHead+s, want, err)
	}
}

// Promise 5.2: a written package with a byte changed, one more, one less, or cut.
func TestReadBent(t *testing.T) {
	for i := range len(wholeText) {
		ends := []string{wholeText[:i], wholeText[:i] + wholeText[i+1:]}
		for _, c := range []byte("\n :#./0129aZ,\t\x00\xff") {
			ends = append(ends, wholeText[:i]+string([]byte{c})+wholeText[i+1:], wholeText[:i]+string([]byte{c})+wholeText[i:])
		}
		for _, s := range ends {
			want, err := told(s)
			reads(t, s, want, err)
		}
	}
}
