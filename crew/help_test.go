package crew_test

import (
	"fmt"
	"testing"

	"stevedore/api"
	"stevedore/crew"
)

// Promise 12.4: Help's errors.
func TestHelpErrors(t *testing.T) {
	c, _ := some(t)
	calls := len(c.Calls())
	tells(t, "nobody", c.Help("zz"), api.ErrMissing)
	for _, name := range []string{"aa", "cc", "dd", "ee"} {
		tells(t, name, c.Help(name), api.ErrState)
	}
	c.Ends([]bool{false})
	stand(t, "refused", c, someStand()...)
	if len(c.Calls()) != calls {
		t.Errorf("what was refused ran a script")
	}
	tells(t, "Configure", c.Configure("cc", nil), api.ErrFalse)
	tells(t, "HalfDone", c.Help("cc"), api.ErrState)
}

// Promise 12.4: who helped is Installed, and nobody waits for it.
func TestHelp(t *testing.T) {
	c, d := some(t)
	calls := len(c.Calls())
	tells(t, "Help", c.Help("bb"), api.OK)
	stand(t, "Help", c, "aa 7 1.0 free - -", "bb 7 1.0 free - -")
	stand(t, "the others", c, someStand()[2:]...)
	if l := c.Calls()[calls:]; len(l) != 1 || l[0] != (crew.Call{Name: "bb", What: crew.Task, Well: true}) {
		t.Errorf("calls are %v", l)
	}
	tells(t, "again", c.Help("bb"), api.ErrState)
	stand(t, "opened anew", open(t, d), "aa 7 1.0 free - -", "bb 7 1.0 free - -")
}

// Promise 12.4: if its script does not well, it must be configured anew; who waits for it goes on to.
func TestHelpScript(t *testing.T) {
	c, _ := some(t)
	c.Ends([]bool{false})
	tells(t, "not well", c.Help("bb"), api.ErrFalse)
	stand(t, "not well", c, "aa 5 1.0 free bb -", "bb 4 1.0 free - -")
	if l := c.Calls(); l[len(l)-1] != (crew.Call{Name: "bb", What: crew.Task}) {
		t.Errorf("calls are %v", l)
	}
	tells(t, "again", c.Help("bb"), api.ErrState)
	tells(t, "Configure", c.Configure("bb", nil), api.OK)
	stand(t, "anew", c, "aa 5 1.0 free bb -", "bb 7 1.0 free - -")
}

// Promise 12.4: who waits for several waits on; who has tasks is Pending then.
func TestHelpWaits(t *testing.T) {
	c, _ := fresh(t)
	install(t, c, pack("b0", "listens bin"), pack("b1", "listens bin"), pack("b2", "listens lib"))
	install(t, c, pack("aa", "file bin/x=1", "listens lib doc"), pack("cc", "file lib/x=1"), pack("dd", "file doc=1", "file bin/y=1"))
	stand(t, "all", c, "aa 5 1.0 free b0,b1 doc,lib", "b0 6 1.0 free - bin", "b1 6 1.0 free - bin", "b2 6 1.0 free - lib",
		"cc 5 1.0 free aa,b2 -", "dd 5 1.0 free aa,b0,b1 -")
	tells(t, "who waits itself", c.Help("aa"), api.ErrState)
	tells(t, "b1", c.Help("b1"), api.OK)
	stand(t, "b1", c, "aa 5 1.0 free b0 doc,lib", "b1 7 1.0 free - -", "cc 5 1.0 free aa,b2 -", "dd 5 1.0 free aa,b0 -")
	tells(t, "b0", c.Help("b0"), api.OK)
	stand(t, "b0", c, "aa 6 1.0 free - doc,lib", "b0 7 1.0 free - -", "cc 5 1.0 free aa,b2 -", "dd 5 1.0 free aa -")
	tells(t, "aa", c.Help("aa"), api.OK)
	stand(t, "aa", c, "aa 7 1.0 free - -", "cc 5 1.0 free b2 -", "dd 7 1.0 free - -", "b2 6 1.0 free - lib")
	tells(t, "Hold", c.Hold("cc", true), api.OK)
	tells(t, "b2", c.Help("b2"), api.OK)
	stand(t, "b2", c, "cc 7 1.0 held - -", "b2 7 1.0 free - -")
	lists(t, "all did", c.Audit())
}

// Promise 12.4: wherever the power goes off, nobody waits for one that has nothing to do: it can be helped again.
func TestHelpPower(t *testing.T) {
	ended := false
	for cut := 0; !ended; cut++ {
		what := fmt.Sprint("cut ", cut)
		c, d := fresh(t)
		install(t, c, pack("zz", "listens bin"), pack("aa", "file bin/a=1"), pack("bb", "file bin/b=1"), pack("cc", "file bin/c=1"))
		d.Cut(cut)
		err := c.Help("zz")
		ended = err == nil
		d.Start(cut % 3)
		c = open(t, d)
		for _, name := range c.Names() {
			for _, other := range c.Status(name).Waits {
				if len(c.Status(other).Tasks) == 0 {
					t.Errorf("%s: %s waits for %s, which has nothing to do", what, name, other)
				}
			}
		}
		if !ended {
			tells(t, what, err, api.ErrDevice)
			tells(t, what+", again", c.Help("zz"), api.OK)
		}
		lists(t, what, c.Audit())
	}
}
