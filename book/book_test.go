package book_test

import (
	"fmt"
	"maps"
	"slices"
	"strings"
	"testing"

	"stevedore/api"
	"stevedore/book"
	"stevedore/disk"
)

// texts are what is written, by names.
type texts map[string]string

// tells tests an error: it is just that one, without a place.
func tells(t *testing.T, what string, got, want error) {
	t.Helper()
	if got != want {
		t.Errorf("%s: %v, want %v", what, got, want)
	}
}

// open opens a book; a test can't go on without one.
func open(t *testing.T, d *disk.Disk) *book.Book {
	t.Helper()
	b, err := book.Open(d)
	if b == nil || err != nil {
		t.Fatalf("Open: %v, %v", b, err)
	}
	return b
}

// reads tests all that is written.
func reads(t *testing.T, what string, b *book.Book, want texts) {
	t.Helper()
	names := slices.Sorted(maps.Keys(want))
	if got := b.Names(); !slices.Equal(got, names) {
		t.Errorf("%s: Names() = %.300q, want %.300q", what, got, names)
	}
	for _, name := range names {
		if got := b.Get(name); got != want[name] {
			t.Errorf("%s: Get(%q) = %.300q, want %.300q", what, name, got, want[name])
		}
	}
}

// down tests whether a book is.
func down(t *testing.T, what string, b *book.Book, want bool) {
	t.Helper()
	if got := b.Down(); got != want {
		t.Errorf("%s: Down() = %v, want %v", what, got, want)
	}
}

// some is a book: of its names "old" and "both" are written ahead of Tidy, "both" and "new" behind it, and "gone" and "went" no more.
func some(t *testing.T) (*book.Book, *disk.Disk) {
	t.Helper()
	d := &disk.Disk{}
	b := open(t, d)
	for _, l := range [][2]string{{"old", "o 1"}, {"both", "b"}, {"gone", "g"}, {"", ""}, {"both", "bb"}, {"new", "n"}, {"gone", ""}, {"went", "w"}, {"went", ""}} {
		if l[0] == "" {
			tells(t, "Tidy", b.Tidy(), nil)
		} else {
			tells(t, "Set", b.Set(l[0], l[1]), nil)
		}
	}
	return b, d
}

func someTexts() texts { return texts{"old": "o 1", "both": "bb", "new": "n"} }

// Promise 7.1: without a disk there is no book.
func TestOpenNothing(t *testing.T) {
	b, err := book.Open(nil)
	tells(t, "Open(nil)", err, api.ErrMissing)
	if b != nil {
		t.Errorf("Open(nil) tells a book beside an error")
	}
}

// Promise 7.1: on a new disk nothing is written, and reading changes nothing there.
func TestEmpty(t *testing.T) {
	d := &disk.Disk{}
	d.Cut(0)
	b := open(t, d)
	reads(t, "new", b, nil)
	for _, name := range []string{"", "a", "a\tb", strings.Repeat("x", 1000)} {
		if s := b.Get(name); s != "" {
			t.Errorf("Get(%.30q) = %q", name, s)
		}
	}
	down(t, "new", b, false)
	if l := d.List(); len(l) > 0 {
		t.Errorf("reading wrote %q", l)
	}
}

// Promises 7.1, 7.2: what is written is there, whoever reads it; what is empty is not there any more.
func TestSet(t *testing.T) {
	d := &disk.Disk{}
	b := open(t, d)
	want := texts{}
	for i, c := range []struct{ name, s string }{
		{"b", "1"}, {"a", "2"}, {"c", "3"}, {"a", "4"}, {"a", "4"}, {"aa", "5"}, {"b", ""}, {"b", ""}, {"d", ""},
		{"B", "6"}, {"~", "7"}, {" ", " "}, {"b", "8"}, {"é", "è"}, {"c", ""}, {"a", ""}, {"a", "9"}, {"page", "p"}, {"0", "0"},
	} {
		what := fmt.Sprint("line ", i)
		tells(t, what, b.Set(c.name, c.s), nil)
		want[c.name] = c.s
		if c.s == "" {
			delete(want, c.name)
		}
		if got := b.Get(c.name); got != c.s {
			t.Errorf("%s: Get(%q) = %q, want %q", what, c.name, got, c.s)
		}
		reads(t, what, b, want)
		reads(t, what+", opened anew", open(t, d), want)
		down(t, what, b, false)
	}
	if got, want := b.Names(), []string{" ", "0", "B", "a", "aa", "b", "page", "~", "é"}; !slices.Equal(got, want) {
		t.Errorf("Names() = %q, want %q", got, want)
	}
}

// Promise 7.2: what may be written, and what may not.
func TestArgs(t *testing.T) {
	long := strings.Repeat("n", api.MaxName)
	full := strings.Repeat("s", 300)
	for _, c := range []struct {
		name, s string
		want    error
	}{
		{"a", "x", nil},
		{"a", "", nil},
		{long, "x", nil},
		{long, full, nil},
		{"\x00", "\x00\xff\r", nil},
		{strings.Repeat("é", 12), strings.Repeat("é", 150), nil},
		{"a b", " x  y ", nil},
		{"", "x", api.ErrArg},
		{"", "", api.ErrArg},
		{long + "n", "x", api.ErrArg},
		{long + "n", "", api.ErrArg},
		{strings.Repeat("é", 12) + "e", "x", api.ErrArg},
		{"a", full + "s", api.ErrArg},
		{"a", strings.Repeat("é", 150) + "e", api.ErrArg},
		{"a", strings.Repeat("s", 100_000), api.ErrArg},
		{strings.Repeat("n", 100_000), "x", api.ErrArg},
		{"\t", "x", api.ErrArg},
		{"a\t", "x", api.ErrArg},
		{"\ta", "x", api.ErrArg},
		{"a\tb", "", api.ErrArg},
		{"\n", "x", api.ErrArg},
		{"a\n", "x", api.ErrArg},
		{"a\nb", "", api.ErrArg},
		{"a", "\t", api.ErrArg},
		{"a", "x\ty", api.ErrArg},
		{"a", "\n", api.ErrArg},
		{"a", "x\n", api.ErrArg},
		{"a", "\nx", api.ErrArg},
	} {
		what := fmt.Sprintf("Set(%.40q, %.40q)", c.name, c.s)
		b, d := some(t)
		tells(t, what, b.Set(c.name, c.s), c.want)
		want := someTexts()
		if c.want == nil && c.s != "" {
			want[c.name] = c.s
		}
		reads(t, what, b, want)
		down(t, what, b, false)
		reads(t, what+", opened anew", open(t, d), want)
		tells(t, what+", and another one", b.Set("x", "y"), nil)
	}
}

// Promises 7.1, 7.2: texts are bytes, all of which are kept but those that are refused.
func TestBytes(t *testing.T) {
	d := &disk.Disk{}
	b := open(t, d)
	want := texts{}
	for i := range 256 {
		c := string([]byte{byte(i)})
		for _, name := range []string{c, "n" + c, c + c + "n"} {
			told := error(nil)
			if c == "\t" || c == "\n" {
				told = api.ErrArg
			}
			tells(t, fmt.Sprintf("Set(%q)", name), b.Set(name, c), told)
			tells(t, fmt.Sprintf("Set(%q)", name), b.Set(name, c+"x"+c), told)
			if told == nil {
				want[name] = c + "x" + c
			}
		}
	}
	reads(t, "all bytes", b, want)
	d.Start(1)
	reads(t, "started", open(t, d), want)
	tells(t, "Tidy", b.Tidy(), nil)
	reads(t, "tidy", open(t, d), want)
}

// Promise 7.2: Tidy changes nothing, and what lies on the disk takes no more room behind it.
func TestTidy(t *testing.T) {
	b, d := some(t)
	for i := range 5 {
		what := fmt.Sprint("tidy ", i)
		before := size(d)
		tells(t, what, b.Tidy(), nil)
		if now := size(d); now > before || i == 0 && now == before {
			t.Errorf("%s: %d bytes, %d before", what, now, before)
		}
		reads(t, what, b, someTexts())
		down(t, what, b, false)
		d.Start(i)
		reads(t, what+", opened anew", open(t, d), someTexts())
	}
	want := someTexts()
	for name := range someTexts() {
		tells(t, "Set", b.Set(name, ""), nil)
		delete(want, name)
		reads(t, "none of "+name, b, want)
		reads(t, "none of "+name+", opened anew", open(t, d), want)
	}
	tells(t, "Tidy", b.Tidy(), nil)
	if n := size(d); n != 0 {
		t.Errorf("nothing is written, in %d bytes", n)
	}
	d = &disk.Disk{}
	b = open(t, d)
	tells(t, "Tidy of nothing", b.Tidy(), nil)
	reads(t, "Tidy of nothing", open(t, d), nil)
}

// Promise 7.2: what was noted ahead of a Tidy is not noted again behind it.
func TestTidyForgets(t *testing.T) {
	d := &disk.Disk{}
	b := open(t, d)
	for i := range 300 {
		tells(t, "Set", b.Set(fmt.Sprint(i), "a line"), nil)
	}
	tells(t, "Tidy", b.Tidy(), nil)
	before := size(d)
	tells(t, "Set", b.Set("7", "otherwise"), nil)
	if now := size(d); now > before+20 {
		t.Errorf("a short line more takes %d bytes", now-before)
	}
}

// size is how many bytes all files have.
func size(d *disk.Disk) int {
	n := 0
	for _, file := range d.List() {
		s, _ := d.Read(file)
		n += len(s)
	}
	return n
}

// Promise 7.2: names that come and go leave nothing behind, even if nobody tidies.
func TestComeAndGo(t *testing.T) {
	d := &disk.Disk{}
	b := open(t, d)
	for i := range 2000 {
		name := fmt.Sprint("name", i)
		tells(t, "Set", b.Set(name, "x"), nil)
		tells(t, "Set", b.Set(name, ""), nil)
	}
	if n := size(d); n != 0 {
		t.Errorf("nothing is written, in %d bytes", n)
	}
}

// Promise 7.1: the book lies in its own files alone, and leaves others as they are.
func TestFiles(t *testing.T) {
	d := &disk.Disk{}
	others := texts{"book": "1", "a": "2", "boo/x": "3", "Book/x": "4", "s/book/x": "5"}
	for name, s := range others {
		tells(t, "Write", d.Write(name, s), nil)
		tells(t, "Sync", d.Sync(name), nil)
	}
	b := open(t, d)
	for i := range 300 {
		tells(t, "Set", b.Set(fmt.Sprint(i), "x"), nil)
		tells(t, "Set", b.Set(fmt.Sprint(i-100), ""), nil)
		if i%50 == 0 {
			tells(t, "Tidy", b.Tidy(), nil)
		}
	}
	n := 0
	for _, name := range d.List() {
		s, _ := d.Read(name)
		if want, ok := others[name]; ok {
			n++
			if s != want {
				t.Errorf("%q has %q now, had %q", name, s, want)
			}
		} else if !strings.HasPrefix(name, "book/") {
			t.Errorf("%q is a file that does not begin with book/", name)
		}
	}
	if n != len(others) {
		t.Errorf("%d other files are left of %d", n, len(others))
	}
}

// Promise 7.1: many lines, more than a disk has files.
func TestMany(t *testing.T) {
	d := &disk.Disk{}
	b := open(t, d)
	want := texts{}
	for i := range 2 * api.MaxFiles {
		name, s := fmt.Sprint("name ", i), strings.Repeat("x", i%301)
		tells(t, name, b.Set(name, s), nil)
		if s != "" {
			want[name] = s
		}
	}
	reads(t, "many", b, want)
	reads(t, "many, opened anew", open(t, d), want)
	tells(t, "Tidy", b.Tidy(), nil)
	reads(t, "many, tidy", open(t, d), want)
}

// P4: what comes out is the caller's, and two books know nothing of each other.
func TestFresh(t *testing.T) {
	b, d := some(t)
	l := b.Names()
	for i := range l {
		l[i] = "changed"
	}
	reads(t, "Names were changed", b, someTexts())
	other := open(t, &disk.Disk{})
	tells(t, "Set", other.Set("old", "other"), nil)
	reads(t, "another disk", b, someTexts())
	reads(t, "another disk, opened anew", open(t, d), someTexts())
	reads(t, "the other one", other, texts{"old": "other"})
}

// P4: what lies on the disk hangs on what was done alone.
func TestSameFiles(t *testing.T) {
	fill := func() texts {
		d := &disk.Disk{}
		b := open(t, d)
		for i := range 500 {
			tells(t, "Set", b.Set(fmt.Sprint(i%200), fmt.Sprint(i)), nil)
			if i == 350 {
				tells(t, "Tidy", b.Tidy(), nil)
			}
		}
		files := texts{}
		for _, name := range d.List() {
			files[name], _ = d.Read(name)
		}
		return files
	}
	first := fill()
	for range 5 {
		if again := fill(); !maps.Equal(first, again) {
			t.Errorf("the files are otherwise: %.300q, were %.300q", again, first)
		}
	}
}
