package status_test

import (
	"fmt"
	"math"
	"reflect"
	"slices"
	"strings"
	"testing"

	"stevedore/api"
	"stevedore/status"
)

// The table of the document, as it stands there.
const table = `
| | None | Config | Half | Unpacked | HalfDone | Awaited | Pending | Installed |
|---|---|---|---|---|---|---|---|---|
| Opens | Half | Half | Half | Half | Half | Half | Half | Half |
| Stands | - | - | Unpacked | - | - | - | - | - |
| Starts | - | - | - | HalfDone | HalfDone | - | - | - |
| Works | - | - | - | - | Installed | - | - | - |
| Fails | - | - | Half | - | HalfDone | - | HalfDone | - |
| Leaves | - | - | Half | Half | Half | Half | Half | Half |
| Gone | - | - | Config | - | - | - | - | - |
| Cleared | - | None | None | - | - | - | - | - |
| Called | - | - | - | - | - | Awaited | Pending | Pending |
| Helped | - | - | - | - | - | - | Installed | - |
`

var states = map[string]int{
	"None": api.None, "Config": api.Config, "Half": api.Half, "Unpacked": api.Unpacked,
	"HalfDone": api.HalfDone, "Awaited": api.Awaited, "Pending": api.Pending, "Installed": api.Installed,
}

var events = map[string]int{
	"Opens": status.Opens, "Stands": status.Stands, "Starts": status.Starts, "Works": status.Works, "Fails": status.Fails,
	"Leaves": status.Leaves, "Gone": status.Gone, "Cleared": status.Cleared, "Called": status.Called, "Helped": status.Helped,
}

// cells are those of a line of the table.
func cells(line string) []string {
	l := strings.Split(strings.Trim(line, "|"), "|")
	for i := range l {
		l[i] = strings.TrimSpace(l[i])
	}
	return l
}

// nexts tests Next and May of a state and an event.
func nexts(t *testing.T, state, event, want int, told error) {
	t.Helper()
	got, err := status.Next(state, event)
	if got != want || err != told {
		t.Errorf("Next(%d, %d) = %d, %v, want %d, %v", state, event, got, err, want, told)
	}
	if got := status.May(state, event); got != (told == nil) {
		t.Errorf("May(%d, %d) = %v", state, event, got)
	}
}

// Promise 8.1: each cell of the table.
func TestNext(t *testing.T) {
	lines := strings.Split(strings.TrimSpace(table), "\n")
	heads := cells(lines[0])
	n := 0
	for _, line := range lines[2:] {
		row := cells(line)
		event, ok := events[row[0]]
		if !ok {
			t.Fatalf("%q is no event", row[0])
		}
		for i, cell := range row[1:] {
			state, ok := states[heads[i+1]]
			if !ok {
				t.Fatalf("%q is no state", heads[i+1])
			}
			n++
			if cell == "-" {
				nexts(t, state, event, 0, api.ErrState)
			} else if next, ok := states[cell]; ok {
				nexts(t, state, event, next, nil)
			} else {
				t.Fatalf("%q is no state", cell)
			}
		}
	}
	if n != 80 {
		t.Errorf("the table has %d cells", n)
	}
}

// Promise 8.1: the events are numbers from 1 on, in this order.
func TestEvents(t *testing.T) {
	l := []int{status.Opens, status.Stands, status.Starts, status.Works, status.Fails, status.Leaves, status.Gone, status.Cleared, status.Called, status.Helped}
	if want := []int{1, 2, 3, 4, 5, 6, 7, 8, 9, 10}; !slices.Equal(l, want) {
		t.Errorf("events are %v, want %v", l, want)
	}
}

// Promise 8.1: no state, no event, or neither; ErrArg is told ahead of ErrState.
func TestNextWrong(t *testing.T) {
	numbers := []int{math.MinInt, math.MinInt32, -256, -2, -1, 0, 1, 2, 3, 4, 5, 6, 7, 8, 9, 10, 11, 12, 80, 256, 1 << 20, 1 << 32, math.MaxInt}
	n := 0
	for _, state := range numbers {
		for _, event := range numbers {
			if state < api.None || state > api.Installed || event < status.Opens || event > status.Helped {
				nexts(t, state, event, 0, api.ErrArg)
				n++
			}
		}
	}
	if want := len(numbers)*len(numbers) - 80; n != want {
		t.Errorf("%d pairs are wrong, want %d", n, want)
	}
}

// of is a status that is right, but for what a test changes of it.
func of(state int) status.Status {
	s := status.Status{State: state, Version: api.Version{Upstream: "1.0"}}
	switch state {
	case api.None:
		s.Version = api.Version{}
	case api.Awaited:
		s.Waits = []string{"aa"}
	case api.Pending:
		s.Tasks = []string{"bin"}
	}
	return s
}

// list is a list of texts.
func list(l ...string) []string { return l }

// long is a text of so many letters.
func long(n int) string { return strings.Repeat("x", n) }

// show is a status as a test tells it: long ones are cut.
func show(s status.Status) string { return fmt.Sprintf("%.200q", fmt.Sprintf("%+v", s)) }

// rights tests Right, and that Print tells ErrArg of what is not.
func rights(t *testing.T, s status.Status, want bool) {
	t.Helper()
	if got := status.Right(s); got != want {
		t.Errorf("Right(%s) = %v, want %v", show(s), got, want)
	}
	text, err := status.Print(s)
	if want && (text == "" || err != nil) || !want && (text != "" || err != api.ErrArg) {
		t.Errorf("Print(%s) = %.200q, %v, but Right should be %v", show(s), text, err, want)
	}
}

// Promise 8.2: which states there are.
func TestRightState(t *testing.T) {
	for _, state := range []int{math.MinInt, -256, -1, 0, 1, 2, 3, 4, 5, 6, 7, 8, 9, 256, 1 << 32, math.MaxInt} {
		rights(t, of(state), 0 <= state && state <= 7)
		s := of(state)
		s.Held = true
		rights(t, s, 0 < state && state <= 7)
	}
}

// Promise 8.2: of None there is nothing else; empty lists are nothing.
func TestRightNone(t *testing.T) {
	rights(t, status.Status{}, true)
	rights(t, status.Status{Waits: list(), Tasks: list()}, true)
	for _, s := range []status.Status{
		{Version: api.Version{Upstream: "1.0"}},
		{Version: api.Version{Epoch: 1}},
		{Version: api.Version{Epoch: -1}},
		{Version: api.Version{Upstream: "x"}},
		{Version: api.Version{Revision: "1"}},
		{Held: true},
		{Waits: list("aa")},
		{Waits: list("")},
		{Tasks: list("bin")},
		{Tasks: list("")},
	} {
		rights(t, s, false)
	}
}

// Promise 8.2: of all others the version is one.
func TestRightVersion(t *testing.T) {
	for state := api.Config; state <= api.Installed; state++ {
		for _, c := range []struct {
			v    api.Version
			want bool
		}{
			{api.Version{Upstream: "1.0"}, true},
			{api.Version{Epoch: 3, Upstream: "1:0-1", Revision: "2"}, true},
			{api.Version{Upstream: strings.Repeat("1", api.MaxVersion)}, true},
			{api.Version{}, false},
			{api.Version{Upstream: "a"}, false},
			{api.Version{Upstream: "1 0"}, false},
			{api.Version{Upstream: "1-0"}, false},
			{api.Version{Epoch: -1, Upstream: "1"}, false},
			{api.Version{Upstream: strings.Repeat("1", api.MaxVersion+1)}, false},
		} {
			s := of(state)
			s.Version = c.v
			rights(t, s, c.want)
		}
	}
}

// Promise 8.2: in which states there are names that wait, and tasks.
func TestRightWhen(t *testing.T) {
	for state := api.Config; state <= api.Installed; state++ {
		for _, waits := range [][]string{nil, {}, {"aa"}, {"aa", "bb"}} {
			for _, tasks := range [][]string{nil, {}, {"bin"}, {"bin", "etc"}} {
				s := of(state)
				s.Waits, s.Tasks = waits, tasks
				want := false
				switch state {
				case api.Awaited:
					want = len(waits) > 0
				case api.Pending:
					want = len(waits) == 0 && len(tasks) > 0
				default:
					want = len(waits) == 0 && len(tasks) == 0
				}
				rights(t, s, want)
			}
		}
	}
}

// Promise 8.2: names that wait.
func TestRightWaits(t *testing.T) {
	for _, c := range []struct {
		l    []string
		want bool
	}{
		{list("aa"), true},
		{list("aa", "bb", "cc", "dd"), true},
		{list("aa", "bb", "cc", "dd", "ee"), false},
		{list("a", "bb"), false},
		{list("aa", "b"), false},
		{list(""), false},
		{list("-"), false},
		{list("--"), false},
		{list("+a"), false},
		{list("Aa"), false},
		{list("aa", "bB"), false},
		{list("a a"), false},
		{list("a,a"), false},
		{list("a_a"), false},
		{list("0-", "1+", "aa."), true},
		{list(long(api.MaxName)), true},
		{list(long(api.MaxName + 1)), false},
		{list("bb", "aa"), false},
		{list("aa", "cc", "bb"), false},
		{list("aa", "aa"), false},
		{list("aa", "bb", "bb"), false},
		{list("aa", "bb", "aa"), false},
		{list("aa", "aaa"), true},
		{list("aaa", "aa"), false},
		{list("a+", "a-", "a.", "a0"), true},
		{list("a-", "a+"), false},
		{list("a10", "a9"), true},
		{list("a9", "a10"), false},
	} {
		s := of(api.Awaited)
		s.Waits = c.l
		rights(t, s, c.want)
		s.Tasks = list("bin", "etc")
		rights(t, s, c.want)
	}
}

// Promise 8.2: tasks, of Pending and of Awaited.
func TestRightTasks(t *testing.T) {
	for _, c := range []struct {
		l    []string
		want bool
	}{
		{list("bin"), true},
		{list("b"), true},
		{list("bin", "etc"), true},
		{list("bin", "etc", "usr"), false},
		{list(""), false},
		{list("", "bin"), false},
		{list("-"), false},
		{list("-", "bin"), false},
		{list("+", "-"), false},
		{list("--"), true},
		{list("-a", "-b"), true},
		{list("a,b"), false},
		{list(","), false},
		{list("a", "b,"), false},
		{list("a b"), false},
		{list("a\tb"), false},
		{list("a", "é"), false},
		{list("//", "/x/"), true},
		{list("!", "~"), true},
		{list(long(60)), true},
		{list(long(61)), false},
		{list("a", long(61)), false},
		{list(long(1_000_000)), false},
		{list("etc", "bin"), false},
		{list("bin", "bin"), false},
		{list("bin", "bin/x"), true},
		{list("bin/x", "bin"), false},
		{list("B", "a"), true},
		{list("a", "B"), false},
	} {
		for _, state := range []int{api.Pending, api.Awaited} {
			s := of(state)
			s.Tasks = c.l
			rights(t, s, c.want)
		}
	}
}

// Promise 8.2: of all bytes just those that are named may stand in the lists.
func TestRightBytes(t *testing.T) {
	for c := range 256 {
		text := string([]byte{byte(c)})
		tasks := 33 <= c && c <= 126 && c != ','
		waits := 'a' <= c && c <= 'z' || '0' <= c && c <= '9' || c == '+' || c == '-' || c == '.'
		for _, l := range [][]string{{"x" + text}, {text + "x"}, {"0x" + text + "x"}} {
			s := of(api.Pending)
			s.Tasks = l
			rights(t, s, tasks)
		}
		s := of(api.Pending)
		s.Tasks = list(text)
		rights(t, s, tasks && c != '-')
		s = of(api.Awaited)
		s.Waits = list("x" + text)
		rights(t, s, waits)
	}
}

// P1, P4: lists of any length are answered at once, and none is written into, nor what stands behind its length.
func TestRightKeeps(t *testing.T) {
	many := slices.Repeat(list("aa"), 1_000_000)
	rights(t, status.Status{State: api.Awaited, Version: api.Version{Upstream: "1"}, Waits: many}, false)
	rights(t, status.Status{State: api.Pending, Version: api.Version{Upstream: "1"}, Tasks: many}, false)
	waits, tasks := list("aa", "bb", "zz", "yy"), list("bin", "etc", "x")
	s := of(api.Awaited)
	s.Waits, s.Tasks = waits[:2], tasks[:1]
	rights(t, s, true)
	s.Waits = waits[1:3]
	rights(t, s, true)
	if !reflect.DeepEqual(waits, list("aa", "bb", "zz", "yy")) || !reflect.DeepEqual(tasks, list("bin", "etc", "x")) {
		t.Errorf("what was handed in is changed: %q, %q", waits, tasks)
	}
}
