package disk_test

import (
	"fmt"
	"maps"
	"math"
	"testing"

	"stevedore/api"
	"stevedore/disk"
)

// Promise 6.3: what stands of a file that is not safe as it is.
func TestStart(t *testing.T) {
	const none = "none" // nothing is safe of it, or it is not there
	for _, c := range []struct {
		safe, now string
		keeps     int
		want      string
	}{
		{none, "abc", 0, none},
		{none, "abc", -1, none},
		{none, "abc", math.MinInt, none},
		{none, "abc", 1, "a"},
		{none, "abc", 2, "ab"},
		{none, "abc", 3, "abc"},
		{none, "abc", 4, "abc"},
		{none, "abc", math.MaxInt, "abc"},
		{none, "", 0, none},
		{none, "", 1, ""},
		{"", "abc", 0, ""},
		{"", "abc", 1, "a"},
		{"", "abc", 9, "abc"},
		{"", "", 0, ""},
		{"", "", 1, ""},
		{"ABC", "abc", 0, "ABC"},
		{"ABC", "abc", -1, "ABC"},
		{"ABC", "abc", 1, "aBC"},
		{"ABC", "abc", 2, "abC"},
		{"ABC", "abc", 3, "abc"},
		{"ABC", "abc", 4, "abc"},
		{"ABCDE", "abc", 2, "abCDE"},
		{"ABCDE", "abc", 3, "abcDE"},
		{"ABCDE", "abc", 4, "abcDE"},
		{"ABCDE", "abc", math.MaxInt, "abcDE"},
		{"ABCDE", "", 0, "ABCDE"},
		{"ABCDE", "", 3, "ABCDE"},
		{"A", "abc", 0, "A"},
		{"A", "abc", 1, "a"},
		{"A", "abc", 2, "ab"},
		{"A", "abc", 3, "abc"},
		{"same", "same", 0, "same"},
		{"same", "same", 1, "same"},
		{"same", "same", 9, "same"},
		{"é", "è", 1, "é"},
		{"\xff\x00", "\x00\xff", 1, "\x00\x00"},
	} {
		what := fmt.Sprintf("safe %q, now %q, keeps %d", c.safe, c.now, c.keeps)
		var d disk.Disk
		if c.safe != none {
			tells(t, what, d.Write("f", c.safe), nil)
			tells(t, what, d.Sync("f"), nil)
		}
		tells(t, what, d.Write("f", c.now), nil)
		d.Cut(0)
		d.Start(c.keeps)
		want := files{}
		if c.want != none {
			want["f"] = c.want
		}
		lies(t, what, &d, want)
		// It is safe then: nothing is taken from it any more.
		for _, keeps := range []int{0, 1, -1, 2, 9} {
			d.Start(keeps)
			lies(t, fmt.Sprint(what, ", then ", keeps), &d, want)
		}
	}
}

// Promise 6.3: what is safe as it is stays, beside what is not, and what is gone stays gone.
func TestStartMany(t *testing.T) {
	for keeps, want := range map[int]files{
		-1: {"old": "o12", "both": "safe"},
		0:  {"old": "o12", "both": "safe"},
		1:  {"old": "o12", "both": "nafe", "new": "n"},
		2:  {"old": "o12", "both": "nofe", "new": "n1"},
		3:  {"old": "o12", "both": "nowe", "new": "n1"},
		99: {"old": "o12", "both": "nowe", "new": "n1"},
	} {
		d := some(t)
		tells(t, "Write", d.Write("gone", "g"), nil)
		tells(t, "Sync", d.Sync("gone"), nil)
		tells(t, "Write", d.Write("moved", "m"), nil)
		tells(t, "Sync", d.Sync("moved"), nil)
		tells(t, "Move", d.Move("moved", "gone"), nil)
		tells(t, "Remove", d.Remove("gone"), nil)
		d.Start(keeps)
		lies(t, fmt.Sprint("keeps ", keeps), d, want)
		_, err := d.Read("gone")
		tells(t, "Read", err, api.ErrMissing)
		_, err = d.Read("moved")
		tells(t, "Read", err, api.ErrMissing)
	}
}

// Promise 6.3: the power is on, and stays on, whatever Cut said.
func TestStartPower(t *testing.T) {
	for _, n := range []int{-1, 0, 1, 5} {
		var d disk.Disk
		d.Cut(n)
		d.Start(0)
		for range 10 {
			on(t, fmt.Sprint("Cut ", n), &d, true)
			tells(t, fmt.Sprint("Cut ", n), d.Write("f", ""), nil)
		}
		d.Cut(1)
		tells(t, "Write", d.Write("f", ""), nil)
		on(t, "cut again", &d, false)
	}
}

// Promises 6.1, 6.3: the room stays as it is, and what stands then has its bytes of it, even if these are more.
func TestStartRoom(t *testing.T) {
	var d disk.Disk
	d.Room(5)
	tells(t, "Write", d.Write("f", "ABCDE"), nil)
	tells(t, "Sync", d.Sync("f"), nil)
	tells(t, "Write", d.Write("f", "a"), nil)
	tells(t, "Write", d.Write("g", "1234"), nil)
	tells(t, "Write", d.Write("h", "1"), api.ErrFull)
	d.Start(2)
	lies(t, "more than there is room for", &d, files{"f": "aBCDE", "g": "12"})
	tells(t, "Write", d.Write("h", ""), api.ErrFull)
	tells(t, "Remove", d.Remove("g"), nil)
	tells(t, "Write", d.Write("h", ""), nil)
	tells(t, "Write", d.Write("h", "1"), api.ErrFull)
	tells(t, "Write", d.Write("f", "a"), nil)
	tells(t, "Write", d.Write("h", "1234"), nil)
	d.Start(0)
	lies(t, "less", &d, files{"f": "aBCDE"})
	tells(t, "Write", d.Write("h", "1"), api.ErrFull)
	tells(t, "Remove", d.Remove("f"), nil)
	tells(t, "Write", d.Write("h", "12345"), nil)
	tells(t, "Write", d.Write("h", "123456"), api.ErrFull)
	d.Start(0)
	tells(t, "Write", d.Write("i", "12345"), nil)
	tells(t, "Write", d.Write("h", "1"), api.ErrFull)
}

// die tells numbers that look drawn, the same ones each time.
type die uint64

func (d *die) below(most int) int {
	*d = *d*6364136223846793005 + 1442695040888963407
	return int(uint64(*d>>33) % uint64(most))
}

// model is a disk, told by the document's words alone: it counts all anew each time.
type model struct {
	now, safe   files
	power, room int // below 0: without end
}

func (m *model) change() bool {
	if m.power > 0 {
		m.power--
		return true
	}
	return m.power < 0
}

func (m *model) write(file, s string) error {
	if file == "" || len(file) > 80 {
		return api.ErrArg
	}
	if !m.change() {
		return api.ErrDevice
	}
	would := maps.Clone(m.now)
	would[file] = s
	all := 0
	for _, s := range would {
		all += len(s)
	}
	if m.room >= 0 && all > m.room {
		return api.ErrFull
	}
	m.now = would
	return nil
}

func (m *model) sync(file string) error {
	s, ok := m.now[file]
	if !ok {
		return api.ErrMissing
	}
	if !m.change() {
		return api.ErrDevice
	}
	m.safe[file] = s
	return nil
}

func (m *model) move(file, to string) error {
	if to == "" || len(to) > 80 {
		return api.ErrArg
	}
	if _, ok := m.now[file]; !ok {
		return api.ErrMissing
	}
	if !m.change() {
		return api.ErrDevice
	}
	for _, l := range []files{m.now, m.safe} {
		s, ok := l[file]
		delete(l, file)
		delete(l, to)
		if ok {
			l[to] = s
		}
	}
	return nil
}

func (m *model) remove(file string) error {
	if _, ok := m.now[file]; !ok {
		return api.ErrMissing
	}
	if !m.change() {
		return api.ErrDevice
	}
	delete(m.now, file)
	delete(m.safe, file)
	return nil
}

func (m *model) start(keeps int) {
	m.power = -1
	left := files{}
	for name, now := range m.now {
		safe, ok := m.safe[name]
		if keeps <= 0 {
			if ok {
				left[name] = safe
			}
			continue
		}
		var b []byte
		for i := range max(len(now), len(safe)) {
			if i < keeps && i < len(now) {
				b = append(b, now[i])
			} else if i < len(safe) {
				b = append(b, safe[i])
			}
		}
		left[name] = string(b)
	}
	m.now, m.safe = left, maps.Clone(left)
}

// Promises 6.1, 6.2, 6.3: whatever is done, all is as the document's words say.
func TestModel(t *testing.T) {
	r := die(6)
	names := []string{"a", "b", "c", "d", ""}
	datas := []string{"", "x", "yz", "XYZ", "12345"}
	for range 3000 {
		var d disk.Disk
		m := model{now: files{}, safe: files{}, power: -1, room: -1}
		what := ""
		for range 30 {
			k, n := r.below(16), r.below(12)-2
			file, to, s := names[r.below(5)], names[r.below(5)], datas[r.below(5)]
			what += fmt.Sprintf("%d %q %q %q %d; ", k, file, to, s, n)
			var got, want error
			switch {
			case k < 5:
				got, want = d.Write(file, s), m.write(file, s)
			case k < 8:
				got, want = d.Sync(file), m.sync(file)
			case k < 10:
				got, want = d.Move(file, to), m.move(file, to)
			case k < 12:
				got, want = d.Remove(file), m.remove(file)
			case k == 12:
				d.Cut(n)
				m.power = n
			case k == 13:
				d.Room(n)
				m.room = n
			default:
				d.Start(n - 3)
				m.start(n - 3)
			}
			tells(t, what, got, want)
			lies(t, what, &d, m.now)
			on(t, what, &d, m.power != 0)
			if t.Failed() {
				return
			}
		}
	}
}

// Promises 6.2, 6.3: what is safe stays, wherever the power goes off, if its place is taken by a move alone.
func TestSafeStays(t *testing.T) {
	for cut := range 6 {
		for keeps := range 6 {
			var d disk.Disk
			tells(t, "Write", d.Write("f", "old"), nil)
			tells(t, "Sync", d.Sync("f"), nil)
			d.Cut(cut)
			// Each may be refused, if there is no power.
			d.Write("f.new", "next")
			d.Sync("f.new")
			d.Move("f.new", "f")
			d.Start(keeps)
			want := "old"
			if cut >= 3 {
				want = "next"
			}
			if s, err := d.Read("f"); s != want || err != nil {
				t.Errorf("cut %d, keeps %d: %q, %v, want %q", cut, keeps, s, err, want)
			}
		}
	}
}
