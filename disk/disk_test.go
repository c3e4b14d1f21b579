package disk_test

import (
	"fmt"
	"maps"
	"math"
	"slices"
	"strings"
	"testing"

	"stevedore/api"
	"stevedore/disk"
)

// files are some, by their names.
type files map[string]string

// tells tests an error: it is just that one, without a place.
func tells(t *testing.T, what string, got, want error) {
	t.Helper()
	if got != want {
		t.Errorf("%s: %v, want %v", what, got, want)
	}
}

// lies tests all files, as they are.
func lies(t *testing.T, what string, d *disk.Disk, want files) {
	t.Helper()
	names := slices.Sorted(maps.Keys(want))
	if got := d.List(); !slices.Equal(got, names) {
		t.Errorf("%s: List() = %.300q, want %.300q", what, got, names)
	}
	for _, name := range names {
		if s, err := d.Read(name); s != want[name] || err != nil {
			t.Errorf("%s: Read(%q) = %.300q, %v, want %.300q", what, name, s, err, want[name])
		}
	}
}

// on tests whether there is power.
func on(t *testing.T, what string, d *disk.Disk, want bool) {
	t.Helper()
	if got := d.On(); got != want {
		t.Errorf("%s: On() = %v, want %v", what, got, want)
	}
}

// some is a disk with files: "new" is not safe, "old" is, "both" is safe as another one.
func some(t *testing.T) *disk.Disk {
	t.Helper()
	d := &disk.Disk{}
	tells(t, "Write", d.Write("new", "n1"), nil)
	tells(t, "Write", d.Write("old", "o12"), nil)
	tells(t, "Sync", d.Sync("old"), nil)
	tells(t, "Write", d.Write("both", "safe"), nil)
	tells(t, "Sync", d.Sync("both"), nil)
	tells(t, "Write", d.Write("both", "now"), nil)
	return d
}

// someFiles are those of some, as they are; someSafe as they are safe.
func someFiles() files { return files{"new": "n1", "old": "o12", "both": "now"} }
func someSafe() files  { return files{"old": "o12", "both": "safe"} }

// change is one that can be done with some, and all files behind it, as they are and as they are safe.
type change struct {
	name      string
	do        func(d *disk.Disk) error
	now, safe files
}

func changes() []change {
	return []change{
		{"Write", func(d *disk.Disk) error { return d.Write("x", "y") },
			files{"new": "n1", "old": "o12", "both": "now", "x": "y"}, someSafe()},
		{"Write again", func(d *disk.Disk) error { return d.Write("old", "y") },
			files{"new": "n1", "old": "y", "both": "now"}, someSafe()},
		{"Write nothing", func(d *disk.Disk) error { return d.Write("old", "") },
			files{"new": "n1", "old": "", "both": "now"}, someSafe()},
		{"Sync", func(d *disk.Disk) error { return d.Sync("new") },
			someFiles(), files{"new": "n1", "old": "o12", "both": "safe"}},
		{"Sync another one", func(d *disk.Disk) error { return d.Sync("both") },
			someFiles(), files{"old": "o12", "both": "now"}},
		{"Sync again", func(d *disk.Disk) error { return d.Sync("old") }, someFiles(), someSafe()},
		{"Move", func(d *disk.Disk) error { return d.Move("old", "x") },
			files{"new": "n1", "x": "o12", "both": "now"}, files{"x": "o12", "both": "safe"}},
		{"Move both", func(d *disk.Disk) error { return d.Move("both", "x") },
			files{"new": "n1", "old": "o12", "x": "now"}, files{"old": "o12", "x": "safe"}},
		{"Move what is not safe", func(d *disk.Disk) error { return d.Move("new", "x") },
			files{"x": "n1", "old": "o12", "both": "now"}, someSafe()},
		{"Move onto one", func(d *disk.Disk) error { return d.Move("both", "old") },
			files{"new": "n1", "old": "now"}, files{"old": "safe"}},
		{"Move onto one that is not safe", func(d *disk.Disk) error { return d.Move("both", "new") },
			files{"old": "o12", "new": "now"}, files{"old": "o12", "new": "safe"}},
		{"Move what is not safe onto one", func(d *disk.Disk) error { return d.Move("new", "both") },
			files{"old": "o12", "both": "n1"}, files{"old": "o12"}},
		{"Move onto itself", func(d *disk.Disk) error { return d.Move("both", "both") }, someFiles(), someSafe()},
		{"Move onto itself, not safe", func(d *disk.Disk) error { return d.Move("new", "new") }, someFiles(), someSafe()},
		{"Move onto itself, safe", func(d *disk.Disk) error { return d.Move("old", "old") }, someFiles(), someSafe()},
		{"Remove", func(d *disk.Disk) error { return d.Remove("old") },
			files{"new": "n1", "both": "now"}, files{"both": "safe"}},
		{"Remove both", func(d *disk.Disk) error { return d.Remove("both") },
			files{"new": "n1", "old": "o12"}, files{"old": "o12"}},
		{"Remove what is not safe", func(d *disk.Disk) error { return d.Remove("new") },
			files{"old": "o12", "both": "now"}, someSafe()},
	}
}

// Promise 6.1: the zero value has no files, power, and room.
func TestZero(t *testing.T) {
	var d disk.Disk
	lies(t, "the zero value", &d, nil)
	on(t, "the zero value", &d, true)
	s, err := d.Read("a")
	if s != "" {
		t.Errorf("Read tells %q beside an error", s)
	}
	tells(t, "Read", err, api.ErrMissing)
	tells(t, "Sync", d.Sync("a"), api.ErrMissing)
	tells(t, "Remove", d.Remove("a"), api.ErrMissing)
	tells(t, "Move", d.Move("a", "b"), api.ErrMissing)
	d.Start(0)
	d.Start(1)
	lies(t, "started", &d, nil)
	long := strings.Repeat("x", 1_000_000)
	tells(t, "Write", d.Write("a", long), nil)
	lies(t, "written", &d, files{"a": long})
	var other disk.Disk
	lies(t, "another one", &other, nil)
}

// Promise 6.2: what each change does, with the files as they are, and as they are safe; there is power for it, and it counts.
func TestChanges(t *testing.T) {
	for _, c := range changes() {
		d := some(t)
		d.Cut(1)
		tells(t, c.name, c.do(d), nil)
		lies(t, c.name, d, c.now)
		on(t, c.name, d, false)
		d.Start(0)
		lies(t, c.name+", started", d, c.safe)
	}
}

// Promise 6.1: without power nothing is done, and what is there is told nevertheless.
func TestNoPower(t *testing.T) {
	for _, c := range changes() {
		d := some(t)
		d.Cut(0)
		on(t, c.name, d, false)
		for range 3 {
			tells(t, c.name, c.do(d), api.ErrDevice)
			on(t, c.name, d, false)
		}
		lies(t, c.name, d, someFiles())
		_, err := d.Read("x")
		tells(t, "Read", err, api.ErrMissing)
		d.Start(0)
		lies(t, c.name+", started", d, someSafe())
	}
}

// Promise 6.1: the power goes off behind so many changes.
func TestCut(t *testing.T) {
	for n := range 8 {
		var d disk.Disk
		d.Cut(n)
		want := files{}
		for i := range n {
			on(t, fmt.Sprint("Cut ", n), &d, true)
			name := fmt.Sprint(i)
			tells(t, fmt.Sprint("Cut ", n, ": Write ", i), d.Write(name, name), nil)
			want[name] = name
		}
		on(t, fmt.Sprint("Cut ", n), &d, false)
		tells(t, fmt.Sprint("Cut ", n, ": Write"), d.Write("x", ""), api.ErrDevice)
		lies(t, fmt.Sprint("Cut ", n), &d, want)
	}
	for _, n := range []int{-1, -2, math.MinInt, math.MaxInt} {
		var d disk.Disk
		d.Cut(n)
		for range 100 {
			on(t, fmt.Sprint("Cut ", n), &d, true)
			tells(t, fmt.Sprint("Cut ", n), d.Write("x", ""), nil)
		}
	}
}

// Promise 6.1: the last Cut counts, whatever was left of the one before; also behind the power.
func TestCutAgain(t *testing.T) {
	for _, first := range []int{-1, 0, 1, 5} {
		for _, n := range []int{-1, 0, 1, 2, 7} {
			var d disk.Disk
			d.Cut(first)
			d.Cut(n)
			done, want := 0, n
			if n < 0 {
				want = 10
			}
			for range 10 {
				if d.Write("x", "") == nil {
					done++
				}
			}
			if done != want {
				t.Errorf("Cut %d, then %d: %d changes of 10 were done, want %d", first, n, done, want)
			}
		}
	}
}

// Promises 6.1, 6.2: ErrArg and ErrMissing are no changes, and ErrFull is one; nor is what is asked.
func TestCounts(t *testing.T) {
	d := some(t)
	d.Cut(2)
	tells(t, "Write", d.Write("", "x"), api.ErrArg)
	tells(t, "Sync", d.Sync("x"), api.ErrMissing)
	tells(t, "Move", d.Move("x", "y"), api.ErrMissing)
	tells(t, "Move", d.Move("new", ""), api.ErrArg)
	tells(t, "Remove", d.Remove("x"), api.ErrMissing)
	d.Read("new")
	d.Read("x")
	d.List()
	d.On()
	d.Room(0)
	on(t, "nothing is changed", d, true)
	tells(t, "Write", d.Write("x", "y"), api.ErrFull)
	on(t, "one change", d, true)
	tells(t, "Write", d.Write("x", "y"), api.ErrFull)
	on(t, "two changes", d, false)
	tells(t, "Write", d.Write("x", "y"), api.ErrDevice)
	d.Room(-1)
	on(t, "room", d, false)
	lies(t, "nothing was done", d, someFiles())
}

// Promises 6.1, 6.2: which error is told first.
func TestErrors(t *testing.T) {
	long := strings.Repeat("x", 81)
	for _, power := range []bool{true, false} {
		d := some(t)
		d.Room(0)
		full := api.ErrFull
		if !power {
			d.Cut(0)
			full = api.ErrDevice
		}
		tells(t, "Write", d.Write("", "xx"), api.ErrArg)
		tells(t, "Write", d.Write(long, "xx"), api.ErrArg)
		tells(t, "Write", d.Write("x", "xx"), full)
		tells(t, "Move", d.Move("new", ""), api.ErrArg)
		tells(t, "Move", d.Move("new", long), api.ErrArg)
		tells(t, "Move", d.Move("x", ""), api.ErrArg)
		tells(t, "Move", d.Move("", long), api.ErrArg)
		tells(t, "Move", d.Move("x", "new"), api.ErrMissing)
		tells(t, "Move", d.Move("x", "x"), api.ErrMissing)
		tells(t, "Move", d.Move("", "new"), api.ErrMissing)
		for _, name := range []string{"x", "", long, "ne", "new ", "New"} {
			tells(t, "Sync", d.Sync(name), api.ErrMissing)
			tells(t, "Remove", d.Remove(name), api.ErrMissing)
			s, err := d.Read(name)
			tells(t, "Read", err, api.ErrMissing)
			if s != "" {
				t.Errorf("Read(%q) tells %q beside an error", name, s)
			}
		}
		lies(t, "nothing was done", d, someFiles())
		d.Start(0)
		lies(t, "started", d, someSafe())
	}
}

// Promise 6.2: names of 1 to 80 bytes, whatever they are.
func TestNames(t *testing.T) {
	var d disk.Disk
	want := files{}
	names := []string{" ", "\n", "\x00", "\xff", "/", "a/b", "..", "é", strings.Repeat("é", 40)}
	for n := 1; n <= 80; n++ {
		names = append(names, strings.Repeat("n", n))
	}
	for _, name := range names {
		tells(t, fmt.Sprintf("Write %q", name), d.Write(name, name), nil)
		want[name] = name
	}
	lies(t, "written", &d, want)
	for _, name := range []string{"", strings.Repeat("n", 81), strings.Repeat("é", 41), strings.Repeat("n", 100_000)} {
		tells(t, fmt.Sprintf("Write %.100q", name), d.Write(name, ""), api.ErrArg)
		tells(t, fmt.Sprintf("Move %.100q", name), d.Move("n", name), api.ErrArg)
	}
	lies(t, "nothing was done", &d, want)
	to := strings.Repeat("m", 80)
	tells(t, "Move", d.Move("n", to), nil)
	delete(want, "n")
	want[to] = "n"
	lies(t, "moved", &d, want)
}

// Promise 6.2: names byte by byte in order; and a list is the caller's.
func TestList(t *testing.T) {
	var d disk.Disk
	for _, name := range []string{"b", "é", "a/", "a", "B", "a0", "\xff", "ab", "~", "a.", "10", "9"} {
		tells(t, "Write", d.Write(name, ""), nil)
	}
	want := []string{"10", "9", "B", "a", "a.", "a/", "a0", "ab", "b", "~", "é", "\xff"}
	for range 3 {
		l := d.List()
		if !slices.Equal(l, want) {
			t.Errorf("List() = %q, want %q", l, want)
		}
		for i := range l {
			l[i] = "x"
		}
		_ = append(l[:0], "y", "z")
	}
}

// Promises 6.1, 6.2: room for the bytes of all files, as they are.
func TestRoom(t *testing.T) {
	d := some(t) // n1, o12, now: 8 bytes
	d.Room(8)
	tells(t, "Write", d.Write("x", "y"), api.ErrFull)
	tells(t, "Write", d.Write("new", "n12"), api.ErrFull)
	lies(t, "nothing was done", d, someFiles())
	// Names have no bytes of it, nor has what is safe.
	tells(t, "Write", d.Write(strings.Repeat("x", 80), ""), nil)
	tells(t, "Write", d.Write("both", "abc"), nil)
	tells(t, "Sync", d.Sync("both"), nil)
	tells(t, "Write", d.Write("both", ""), nil)
	tells(t, "Write", d.Write("new", "n1234"), nil)
	tells(t, "Write", d.Write("new", "n12345"), api.ErrFull)
	// What goes leaves its room.
	tells(t, "Remove", d.Remove("old"), nil)
	tells(t, "Write", d.Write("new", "n1234567"), nil)
	tells(t, "Write", d.Write("x", "1"), api.ErrFull)
	tells(t, "Write", d.Write("new", "n123"), nil)
	tells(t, "Write", d.Write("x", "1234"), nil)
	tells(t, "Move", d.Move("x", "new"), nil)
	tells(t, "Write", d.Write("x", "12345"), api.ErrFull)
	tells(t, "Write", d.Write("x", "1234"), nil)
	tells(t, "Move", d.Move("x", "x"), nil)
	tells(t, "Write", d.Write("y", "1"), api.ErrFull)
	tells(t, "Move", d.Move("x", "y"), nil)
	tells(t, "Write", d.Write("x", "1"), api.ErrFull)
	lies(t, "written", d, files{"new": "1234", "y": "1234", "both": "", strings.Repeat("x", 80): ""})
}

// Promises 6.1, 6.2: there may be less room than there are bytes; then all would have too many, unless it is enough that goes.
func TestLessRoom(t *testing.T) {
	d := some(t)
	d.Room(5)
	lies(t, "nothing goes", d, someFiles())
	tells(t, "Write", d.Write("x", ""), api.ErrFull)
	tells(t, "Write", d.Write("new", "n"), api.ErrFull)
	tells(t, "Write", d.Write("new", "n1"), api.ErrFull)
	tells(t, "Sync", d.Sync("both"), nil)
	tells(t, "Move", d.Move("new", "x"), nil)
	tells(t, "Write", d.Write("old", ""), nil)
	tells(t, "Write", d.Write("y", "1"), api.ErrFull)
	d.Room(0)
	tells(t, "Write", d.Write("y", ""), api.ErrFull)
	tells(t, "Remove", d.Remove("x"), nil)
	tells(t, "Remove", d.Remove("both"), nil)
	tells(t, "Write", d.Write("y", ""), nil)
	tells(t, "Write", d.Write("y", "1"), api.ErrFull)
	for _, wide := range []int{-1, math.MinInt, math.MaxInt, 100_000} {
		d.Room(0)
		tells(t, "Write", d.Write("z", "1"), api.ErrFull)
		d.Room(wide)
		tells(t, fmt.Sprint("Room ", wide), d.Write("y", strings.Repeat("x", 100_000)), nil)
		tells(t, "Write", d.Write("y", ""), nil)
	}
}

// Promise 6.2: there are at most MaxFiles files, as they are.
func TestMaxFiles(t *testing.T) {
	var d disk.Disk
	for i := range 5000 {
		tells(t, fmt.Sprint("Write ", i), d.Write(fmt.Sprint("f", i), "x"), nil)
	}
	tells(t, "one more", d.Write("x", ""), api.ErrFull)
	tells(t, "another one", d.Write("f0", "y"), nil)
	tells(t, "Sync", d.Sync("f0"), nil)
	tells(t, "Move", d.Move("f0", "g0"), nil)
	tells(t, "one more", d.Write("f0", ""), api.ErrFull)
	tells(t, "Move onto one", d.Move("g0", "f1"), nil)
	tells(t, "the last one", d.Write("f0", ""), nil)
	tells(t, "one more", d.Write("x", ""), api.ErrFull)
	tells(t, "Remove", d.Remove("f7"), nil)
	tells(t, "the last one", d.Write("x", ""), nil)
	tells(t, "one more", d.Write("f7", ""), api.ErrFull)
	if n := len(d.List()); n != 5000 {
		t.Errorf("%d files", n)
	}
	d.Cut(1)
	tells(t, "it counts", d.Write("f7", ""), api.ErrFull)
	tells(t, "it counts", d.Write("f7", ""), api.ErrDevice)
	d.Start(0)
	lies(t, "started", &d, files{"f1": "y"})
	tells(t, "Write", d.Write("f7", ""), nil)
}
