package shelf_test

import (
	"fmt"
	"testing"

	"stevedore/api"
	"stevedore/shelf"
)

// clashes tests Clash.
func clashes(t *testing.T, what string, s *shelf.Shelf, p api.Pack, takes func(string) bool, place int, whose string) {
	t.Helper()
	if i, name := s.Clash(p, takes); i != place || name != whose {
		t.Errorf("%s: Clash = %d, %q, want %d, %q", what, i, name, place, whose)
	}
}

// Promise 10.2: the first file, and the first owner, that has its path (and may not be taken from), or one beneath it, or above it.
func TestClash(t *testing.T) {
	s, _, _ := run(t, "clash",
		puts(pack("dd", "lib/a/c=1")),
		puts(pack("bb", "lib/a/b=2", "etc/a!3", "bin/x=4")),
		puts(pack("cc", "doc=5", "lib/b=6", "etc/b!7")),
		misses("etc/b"),
	)
	for _, c := range []struct {
		files []string
		takes []string
		place int
		whose string
	}{
		{nil, nil, -1, ""},
		{[]string{"x=", "bin/y="}, nil, -1, ""},
		{[]string{"bin/x="}, nil, 0, "bb"},
		{[]string{"bin/x="}, []string{"bb"}, -1, ""},
		{[]string{"bin/x="}, []string{"cc"}, 0, "bb"},
		{[]string{"x=", "bin/y=", "doc="}, nil, 2, "cc"},
		{[]string{"doc=", "bin/x="}, nil, 0, "cc"},
		{[]string{"doc=", "bin/x="}, []string{"cc"}, 1, "bb"},
		{[]string{"doc=", "bin/x="}, []string{"bb", "cc"}, -1, ""},
		{[]string{"etc/b="}, nil, 0, "cc"},
		{[]string{"etc/b!"}, []string{"cc"}, -1, ""},
		{[]string{"lib/a="}, nil, 0, "bb"},
		{[]string{"lib/a="}, []string{"bb"}, 0, "bb"},
		{[]string{"lib="}, []string{"bb", "cc", "dd"}, 0, "bb"},
		{[]string{"lib/a/c/d="}, []string{"dd"}, 0, "dd"},
		{[]string{"doc/x/y/z="}, []string{"cc"}, 0, "cc"},
		{[]string{"bi=", "bin.=", "bin/x.=", "bin/xx/y=", "do=", "docs=", "docs/x=", "lib/a.=", "lib/ab="}, nil, -1, ""},
		{[]string{"bin=", "doc="}, nil, 0, "bb"},
		{[]string{"=", "/="}, nil, -1, ""},
		{[]string{"bin/x=", "bin/x=", "doc=", "doc/x="}, []string{"bb", "cc"}, 3, "cc"},
	} {
		clashes(t, fmt.Sprint(c), s, pack("aa", c.files...), of(c.takes...), c.place, c.whose)
	}
	clashes(t, "its own", s, pack("bb", "lib/a/b/x=", "etc/a/x=", "bin/x=", "lib/b/c="), none, 3, "cc")
	clashes(t, "its own, and another one's", s, pack("bb", "lib/a="), none, 0, "dd")
	clashes(t, "without a name", s, pack("", "bin/x="), none, 0, "bb")
}

// Promise 10.2: a package's settings that stayed are its own.
func TestClashLeft(t *testing.T) {
	s, _, _ := run(t, "left", puts(pack("bb", "etc/a!1", "bin/x=2")), drops("bb", false))
	clashes(t, "a setting", s, pack("aa", "bin/x=", "etc/a="), none, 1, "bb")
	clashes(t, "above a setting", s, pack("aa", "etc="), of("bb"), 0, "bb")
	clashes(t, "what went", s, pack("aa", "bin/x="), none, -1, "")
}

// P1: who may be taken from is nobody, if nothing says so.
func TestClashTakes(t *testing.T) {
	s, _, m := run(t, "takes", puts(pack("bb", "bin/x=2")))
	p := pack("aa", "bin/y=", "bin/x=")
	panics := func(string) bool { panic("takes") }
	var asked []string
	asks := func(name string) bool {
		asked = append(asked, name)
		return true
	}
	clashes(t, "nil", s, p, nil, 1, "bb")
	clashes(t, "panics", s, p, panics, 1, "bb")
	clashes(t, "asks", s, p, asks, -1, "")
	lists(t, "takes is asked of", asked, []string{"bb"})
	tellsAt(t, "Put, nil", s.Put(p, nil, nil), api.ErrTwice, 1)
	tellsAt(t, "Put, panics", s.Put(p, panics, nil), api.ErrTwice, 1)
	stands(t, "refused", s, m)
	q := pack("cc", "doc=1")
	tells(t, "Put, nil, nobody's", s.Put(q, nil, nil), nil)
	tells(t, "Put, nil, nobody's", m.put(q, none, nil), nil)
	stands(t, "taken", s, m)
}

// Promise 10.2: Choice, of all that can be held against each other.
func TestChoice(t *testing.T) {
	texts := []*string{nil}
	for _, x := range []string{"", "a", "b", "a\n"} {
		texts = append(texts, &x)
	}
	tell := func(s *string) string {
		if s == nil {
			return "nothing"
		}
		return fmt.Sprintf("%q", *s)
	}
	for _, old := range texts {
		for _, now := range texts {
			for _, next := range texts {
				if got, want := shelf.Choice(old, now, next), choice(old, now, next); got != want {
					t.Errorf("Choice(%s, %s, %s) = %d, want %d", tell(old), tell(now), tell(next), got, want)
				}
			}
		}
	}
}

// Promise 10.2: Choice, case by case; what is the same counts, not where it stands.
func TestChoiceCases(t *testing.T) {
	a, b, c, again := "a", "b", "c", string([]byte{'a'})
	for i, x := range []struct {
		old, now, next *string
		want           int
	}{
		{nil, nil, nil, shelf.Leaves},
		{&a, &a, nil, shelf.Leaves},
		{nil, nil, &a, shelf.Takes},
		{nil, &a, &again, shelf.Leaves},
		{&b, &a, &again, shelf.Leaves},
		{nil, &b, &a, shelf.Asks},
		{&a, &b, &again, shelf.Leaves},
		{&a, nil, &again, shelf.Leaves},
		{&a, &again, &b, shelf.Takes},
		{&a, nil, &b, shelf.Asks},
		{&a, &b, &c, shelf.Asks},
	} {
		if got := shelf.Choice(x.old, x.now, x.next); got != x.want {
			t.Errorf("case %d: %d, want %d", i, got, x.want)
		}
	}
	if shelf.Takes != 0 || shelf.Leaves != 1 || shelf.Asks != 2 {
		t.Errorf("Takes, Leaves, Asks are %d, %d, %d", shelf.Takes, shelf.Leaves, shelf.Asks)
	}
}
