package many_test

import (
	"fmt"
	"runtime"
	"slices"
	"strings"
	"sync"
	"testing"
	"time"

	"stevedore/api"
	"stevedore/desk"
	"stevedore/many"
)

// die: numbers that look drawn, the same each time.
type die uint64

func (d *die) n(most int) int {
	*d = *d*6364136223846793005 + 1442695040888963407
	return int(uint64(*d>>33) % uint64(most))
}

// text is a session that is told apart from others, and of which some take long.
func text(d *die, i int) string {
	s := fmt.Sprintf("add Package: p%d\nadd Version: 1.%d\nadd\nadd bin/x 1\nadd %d\nunpack\n", 10+i, i, i%10)
	for range d.n(40) {
		s += []string{"all\n", "names\n", "calls\n", "read bin/x\n", "tidy\n", "crash 2\n", "cut 3\n", "x\n", "\n"}[d.n(9)]
	}
	return s
}

// texts are so many sessions.
func texts(d *die, n int) []string {
	l := make([]string, n)
	for i := range l {
		l[i] = text(d, i)
	}
	return l
}

// Promise 14.1: ErrLimit, if there are more than 50 texts, or workers is not from 1 to 16; nothing else is told then.
func TestLimit(t *testing.T) {
	for _, n := range []int{0, 1, 2, 49, 50, 51, 52, 1000} {
		for _, workers := range []int{-1 << 63, -17, -1, 0, 1, 2, 15, 16, 17, 50, 1 << 40, 1<<63 - 1} {
			l, err := many.All(make([]string, n), workers)
			if n > 50 || workers < 1 || workers > 16 {
				if l != nil || err != api.ErrLimit {
					t.Errorf("%d texts, %d workers: %q, %v, the document asks ErrLimit", n, workers, l, err)
				}
				continue
			}
			if err != nil || len(l) != n || slices.ContainsFunc(l, func(s string) bool { return s != "ok\n" }) {
				t.Errorf("%d texts, %d workers: %q, %v", n, workers, l, err)
			}
		}
	}
	if l, err := many.All(nil, 1); len(l) != 0 || err != nil {
		t.Errorf("nothing: %q, %v", l, err)
	}
	if l, err := many.All(nil, 0); l != nil || err != api.ErrLimit {
		t.Errorf("nothing, by nobody: %q, %v", l, err)
	}
}

// Promise 14.1: Session of each, in order, however many workers there are; what is handed in stays as it is.
func TestAll(t *testing.T) {
	d := die(1)
	for _, n := range []int{0, 1, 2, 3, 7, 15, 16, 17, 33, 50} {
		in := texts(&d, n)
		kept := slices.Clone(in)
		var want []string
		for _, s := range in {
			want = append(want, desk.Session(s))
		}
		for workers := 1; workers <= 16; workers++ {
			got, err := many.All(in, workers)
			if err != nil || !slices.Equal(got, want) {
				t.Fatalf("%d texts, %d workers: %.300q, %v, the document asks %.300q", n, workers, got, err, want)
			}
		}
		if !slices.Equal(in, kept) {
			t.Errorf("%d texts: what was handed in is another one: %.300q", n, in)
		}
	}
}

// Promise 14.1: one that is slow, or is answered an error, holds no other one's place.
func TestUneven(t *testing.T) {
	slow := "add Package: aa\nadd Version: 1\nadd\nunpack\n" + strings.Repeat("tidy\n", 2000)
	in := []string{slow, "compare 1.0~a 1.0", strings.Repeat("x", api.MaxText+1), "", slow, "x", "compare 2 1"}
	for workers := 1; workers <= 16; workers++ {
		got, err := many.All(in, workers)
		want := []string{desk.Session(slow), "-1\n", "error 4\n", "ok\n", desk.Session(slow), "error 3\n", "1\n"}
		if err != nil || !slices.Equal(got, want) {
			t.Fatalf("%d workers: %.100q, %v", workers, got, err)
		}
	}
}

// Promise 14.1, P4: what is answered is the caller's, and what is handed in is not kept.
func TestOwn(t *testing.T) {
	in := []string{"compare 1 2", "x", "names", "beyond"}
	first, _ := many.All(in[:3], 2)
	in[0] = "compare 2 1"
	second, _ := many.All(in[:3], 2)
	if want := []string{"-1\n", "error 3\n", "names\n"}; !slices.Equal(first, want) {
		t.Errorf("%q, the document asks %q", first, want)
	}
	first[1] = "mine"
	if want := []string{"1\n", "error 3\n", "names\n"}; !slices.Equal(second, want) || in[3] != "beyond" {
		t.Errorf("%q, the document asks %q", second, want)
	}
}

// Promise 14.1: all workers are done when the answer is there.
func TestJoined(t *testing.T) {
	d := die(2)
	in := texts(&d, 20)
	before := runtime.NumGoroutine()
	for workers := 1; workers <= 16; workers++ {
		if _, err := many.All(in, workers); err != nil {
			t.Fatal(err)
		}
		many.All(in, 17)
	}
	// One that is done may still be counted for a moment.
	for range 100 {
		if runtime.NumGoroutine() <= before {
			return
		}
		time.Sleep(time.Millisecond)
	}
	t.Errorf("%d goroutines were there, %d are", before, runtime.NumGoroutine())
}

// Promise 14.1: many at the same time do not see each other.
func TestBeside(t *testing.T) {
	d := die(3)
	in := texts(&d, 30)
	want, err := many.All(in, 1)
	if err != nil {
		t.Fatal(err)
	}
	var all sync.WaitGroup
	for i := range 8 {
		all.Go(func() {
			if got, err := many.All(in, 1+2*i); err != nil || !slices.Equal(got, want) {
				t.Errorf("%d workers: %.300q, %v, the document asks %.300q", 1+2*i, got, err, want)
			}
		})
	}
	all.Wait()
}
