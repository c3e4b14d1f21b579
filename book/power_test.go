package book_test

import (
	"fmt"
	"maps"
	"math"
	"testing"

	"stevedore/api"
	"stevedore/book"
	"stevedore/disk"
)

// deed is something that is done with a book: Set, or (without a name) Tidy.
type deed struct{ name, s string }

func (x deed) do(b *book.Book) error {
	if x.name == "" {
		return b.Tidy()
	}
	return b.Set(x.name, x.s)
}

// on is what is written when it was done.
func (x deed) on(l texts) texts {
	l = maps.Clone(l)
	if x.s == "" {
		delete(l, x.name)
	} else {
		l[x.name] = x.s
	}
	return l
}

// has says whether just that is written.
func has(b *book.Book, want texts) bool {
	names := b.Names()
	for _, name := range names {
		if b.Get(name) != want[name] || want[name] == "" {
			return false
		}
	}
	return len(names) == len(want)
}

// Promises 7.1, 7.2: an error of the disk lets it be Down, and nothing is done then any more, whatever becomes of the disk.
func TestDown(t *testing.T) {
	cut := func(d *disk.Disk) { d.Cut(0) }
	fill := func(d *disk.Disk) { d.Room(0) }
	for _, c := range []struct {
		what string
		fail func(d *disk.Disk)
		do   deed
		want error
	}{
		{"Set", cut, deed{"x", "y"}, api.ErrDevice},
		{"Set what is there", cut, deed{"new", "n"}, api.ErrDevice},
		{"Set what is on the page", cut, deed{"old", "o 1"}, api.ErrDevice},
		{"Set nothing", cut, deed{"old", ""}, api.ErrDevice},
		{"Set nothing where nothing is", cut, deed{"x", ""}, api.ErrDevice},
		{"Tidy", cut, deed{}, api.ErrDevice},
		{"Set, full", fill, deed{"x", "y"}, api.ErrFull},
		{"Tidy, full", fill, deed{}, api.ErrFull},
	} {
		b, d := some(t)
		c.fail(d)
		tells(t, c.what, b.Set("a\tb", ""), api.ErrArg)
		down(t, c.what+", ahead", b, false)
		tells(t, c.what, c.do.do(b), c.want)
		for _, keeps := range []int{0, 1} {
			down(t, c.what, b, true)
			reads(t, c.what, b, someTexts())
			tells(t, c.what+", then Set", b.Set("x", "y"), api.ErrState)
			tells(t, c.what+", then Set", b.Set("", "\n"), api.ErrState)
			tells(t, c.what+", then Tidy", b.Tidy(), api.ErrState)
			d.Room(-1)
			d.Start(keeps)
		}
		reads(t, c.what+", opened anew", open(t, d), someTexts())
		b = open(t, d)
		down(t, c.what+", opened anew", b, false)
		tells(t, c.what+", again", c.do.do(b), nil)
	}
}

// Promise 7.2: a Tidy of an empty book without power is refused as well.
func TestDownEmpty(t *testing.T) {
	d := &disk.Disk{}
	b := open(t, d)
	d.Cut(0)
	tells(t, "Tidy", b.Tidy(), api.ErrDevice)
	down(t, "Tidy", b, true)
}

// Promise 7.2: a Tidy for which the power does not last tells it, whatever it has done already, and nothing changes.
func TestTidyPower(t *testing.T) {
	b, d := some(t)
	tells(t, "Tidy", b.Tidy(), nil)
	least := size(d)
	ended := false
	for cut := 0; !ended; cut++ {
		what := fmt.Sprint("cut ", cut)
		b, d := some(t)
		d.Cut(cut)
		err := b.Tidy()
		ended = err == nil
		down(t, what, b, !ended)
		if !ended {
			tells(t, what, err, api.ErrDevice)
		} else if n := size(d); n != least {
			t.Errorf("%s: it is tidy, and has %d bytes, not %d", what, n, least)
		}
		reads(t, what, b, someTexts())
		d.Start(cut)
		reads(t, what+", opened anew", open(t, d), someTexts())
	}
}

// deeds are some of each kind, around Tidy.
func deeds() []deed {
	return []deed{
		{"a", "1"}, {"b", "22"}, {"a", "333"}, {"c", "4"}, {}, {"a", "5555"}, {"b", ""}, {"d", "6"}, {"c", "4"}, {"d", ""},
		{"b", "7"}, {}, {}, {"c", ""}, {"a", "8"}, {"a", ""}, {"b", "a much longer line"}, {"b", "9"}, {},
	}
}

// run does some until one tells an error: what is written, and what would be, if that one was done.
func run(b *book.Book, before texts, l []deed) (now, next texts, err error) {
	now = before
	for _, x := range l {
		next = x.on(now)
		if err = x.do(b); err != nil {
			return now, next, err
		}
		now = next
	}
	return now, now, nil
}

// Promise 7.2: wherever the power goes off, and whatever Start keeps, all is there for which no error was told, and it goes on from there; also if the power goes off again.
func TestPower(t *testing.T) {
	ended := false
	for first := 0; !ended; first++ {
		for _, keeps := range []int{math.MinInt, -1, 0, 1, 2, 3, 4, 5, 6, 8, 10, 13, 1000, math.MaxInt} {
			for second := range 9 {
				what := fmt.Sprintf("cut %d, keeps %d, cut %d", first, keeps, second)
				d := &disk.Disk{}
				d.Cut(first)
				b := open(t, d)
				now, next, err := run(b, texts{}, deeds())
				ended = err == nil
				if err != nil {
					tells(t, what, err, api.ErrDevice)
				}
				now = again(t, what, b, d, now, next, keeps)
				d.Cut(second)
				b = open(t, d)
				now, next, _ = run(b, now, deeds()[second:])
				now = again(t, what+", again", b, d, now, next, keeps)
				b = open(t, d)
				now, _, err = run(b, now, deeds())
				tells(t, what+", all", err, nil)
				reads(t, what+", all", b, now)
			}
		}
	}
}

// again lets the power come back, and is what is written then: one of both, and what was read ahead of that stays.
func again(t *testing.T, what string, b *book.Book, d *disk.Disk, now, next texts, keeps int) texts {
	t.Helper()
	if !maps.Equal(now, next) {
		down(t, what, b, true)
	}
	reads(t, what+", as it was", b, now)
	early := open(t, d)
	if has(early, next) {
		now = next
	}
	reads(t, what+", opened anew", early, now)
	d.Start(keeps)
	reads(t, what+", behind Start", open(t, d), now)
	down(t, what+", behind Start", open(t, d), false)
	return now
}

// Promise 7.2: likewise, wherever the room ends.
func TestRoom(t *testing.T) {
	ended := false
	for room := 0; !ended; room++ {
		for _, keeps := range []int{0, 1, 5, 1000} {
			what := fmt.Sprintf("room %d, keeps %d", room, keeps)
			d := &disk.Disk{}
			d.Room(room)
			b := open(t, d)
			now, next, err := run(b, texts{}, deeds())
			ended = err == nil
			if err != nil {
				tells(t, what, err, api.ErrFull)
			}
			down(t, what, b, err != nil)
			now = again(t, what, b, d, now, next, keeps)
			d.Room(-1)
			b = open(t, d)
			now, _, err = run(b, now, deeds())
			tells(t, what+", all", err, nil)
			reads(t, what+", all", open(t, d), now)
		}
	}
}

// Promise 7.2: a disk with as many files as it may have tells ErrFull, and nothing is lost.
func TestFullOfFiles(t *testing.T) {
	b, d := some(t)
	for i := range api.MaxFiles {
		d.Write(fmt.Sprint("f", i), "")
	}
	tells(t, "Set", b.Set("x", "y"), api.ErrFull)
	down(t, "Set", b, true)
	reads(t, "full", open(t, d), someTexts())
	d.Start(0)
	b = open(t, d)
	reads(t, "room again", b, someTexts())
	tells(t, "Set", b.Set("x", "y"), nil)
}

// die tells numbers that look drawn, the same ones each time.
type die uint64

func (d *die) below(most int) int {
	*d = *d*6364136223846793005 + 1442695040888963407
	return int(uint64(*d>>33) % uint64(most))
}

// Promises 7.1, 7.2: whatever is done, with the book and with the disk, all is as the document's words say.
func TestModel(t *testing.T) {
	r := die(7)
	names := []string{"a", "b", "c", "dd", "e", "", "x\ty"}
	lines := []string{"", "x", "y z", "a long line of words", "12\n"}
	for range 3000 {
		d := &disk.Disk{}
		b := open(t, d)
		now, next, isDown, what := texts{}, texts{}, false, ""
		for range 40 {
			k, n := r.below(20), r.below(30)-2
			x := deed{names[r.below(len(names))], lines[r.below(len(lines))]}
			what += fmt.Sprintf("%d %d %q %q; ", k, n, x.name, x.s)
			switch {
			case k < 14:
				err := b.Set(x.name, x.s)
				switch {
				case isDown:
					tells(t, what, err, api.ErrState)
				case x.name == "" || x.name == "x\ty" || x.s == "12\n":
					tells(t, what, err, api.ErrArg)
				case err == nil:
					now = x.on(now)
					next = now
				default:
					next, isDown = x.on(now), true
					failed(t, what, err)
				}
			case k == 14:
				err := b.Tidy()
				switch {
				case isDown:
					tells(t, what, err, api.ErrState)
				case err != nil:
					isDown = true
					failed(t, what, err)
				}
			case k == 15:
				d.Cut(n)
			case k == 16:
				d.Room(n * 4)
			case k == 17:
				d.Start(n)
			default:
				b, isDown = open(t, d), false
				if has(b, next) {
					now = next
				}
				next = now
			}
			reads(t, what, b, now)
			down(t, what, b, isDown)
			if t.Failed() {
				return
			}
		}
	}
}

// failed tests an error of the disk.
func failed(t *testing.T, what string, err error) {
	t.Helper()
	if err != api.ErrDevice && err != api.ErrFull {
		t.Errorf("%s: %v is none of the disk's errors", what, err)
	}
}

// P1: whatever lies where a book should lie, nothing panics.
func TestSpoilt(t *testing.T) {
	_, d := some(t)
	for _, s := range []string{"", "\n", "\t", "\n\n\t\t\n", "a", "a\n", "\ta\n", "a\tb\tc", "\x00\xff"} {
		for _, name := range d.List() {
			tells(t, "Write", d.Write(name, s), nil)
		}
		b := open(t, d)
		b.Names()
		b.Get("a")
		tells(t, fmt.Sprintf("Set, of %q", s), b.Set("a", "b"), nil)
		if got := b.Get("a"); got != "b" {
			t.Errorf("of %q: Get = %q", s, got)
		}
		tells(t, fmt.Sprintf("Tidy, of %q", s), b.Tidy(), nil)
		_, d = some(t)
	}
}
