package crew_test

import (
	"fmt"
	"strings"
	"testing"

	"stevedore/api"
	"stevedore/crew"
	"stevedore/disk"
)

// files are those of a disk, but the book's.
func files(d *disk.Disk) []string {
	var l []string
	for _, file := range d.List() {
		if s, _ := d.Read(file); !strings.HasPrefix(file, "book/") {
			l = append(l, file+" "+s)
		}
	}
	return l
}

// Promise 12.5: a package's files go; its settings stay, if it has some; else it is not there.
func TestRemove(t *testing.T) {
	c, d := fresh(t)
	p := pack("aa", "file bin/x=1", "setting etc/x=1")
	install(t, c, p, pack("bb", "file bin/y=1"))
	tells(t, "bb", c.Remove("bb", false), api.OK)
	stand(t, "bb", c, gone("bb"))
	lists(t, "bb", c.Names(), "aa")
	tells(t, "aa", c.Remove("aa", false), api.OK)
	stand(t, "aa", c, "aa 1 1.0 free - -")
	says(t, "aa", c, p)
	lists(t, "aa", c.Shelf().Paths("aa"), "etc/x")
	lists(t, "Audit", c.Audit())
	ran(t, "both", c, "aa 1 true", "aa 2 true", "bb 1 true", "bb 2 true", "bb 3 true", "aa 3 true")
	tells(t, "again", c.Remove("aa", false), api.OK)
	stand(t, "again", c, "aa 1 1.0 free - -")
	tells(t, "all", c.Remove("aa", true), api.OK)
	stand(t, "all", c, gone("aa"))
	lists(t, "all", c.Names())
	lists(t, "all", c.Shelf().Owners())
	tells(t, "nobody", c.Remove("aa", true), api.ErrMissing)
	ran(t, "of settings alone no script runs", c, "aa 1 true", "aa 2 true", "bb 1 true", "bb 2 true", "bb 3 true", "aa 3 true")
	lists(t, "what came goes again", files(d))
	lists(t, "opened anew", open(t, d).Names())
}

// Promise 12.5: whatever its state is; of all that goes nothing is left.
func TestRemoveStates(t *testing.T) {
	for _, name := range []string{"aa", "bb", "cc", "dd", "ee"} {
		for _, all := range []bool{false, true} {
			what := fmt.Sprintf("Remove(%s, %v)", name, all)
			c, d := some(t)
			tells(t, what, c.Remove(name, all), api.OK)
			if name == "dd" && !all {
				stand(t, what, c, someStand()...)
				continue
			}
			stand(t, what, c, gone(name))
			for _, file := range files(d) {
				if strings.HasPrefix(file, "s/"+name) {
					t.Errorf("%s: %s is left", what, file)
				}
			}
		}
	}
	c, d := some(t)
	d.Room(1500)
	tells(t, "Unpack", c.Unpack(text(pack("ff", "file f="+strings.Repeat("f", 2000))), nil), api.ErrFull)
	stand(t, "Half", c, "ff 2 1.0 free - -")
	tells(t, "of Half", c.Remove("ff", false), api.OK)
	stand(t, "of Half", c, gone("ff"))
}

// Promise 12.5: of settings alone, without any left, it is not there.
func TestRemoveConfig(t *testing.T) {
	c, _ := fresh(t)
	install(t, c, pack("aa", "setting etc/a=1", "setting etc/b=1"))
	tells(t, "Edit", c.Shelf().Edit("etc/a", "", true), api.OK)
	tells(t, "Edit", c.Shelf().Edit("etc/b", "", true), api.OK)
	tells(t, "Remove", c.Remove("aa", false), api.OK)
	// What somebody took away is a setting all the same.
	stand(t, "nothing lies there", c, "aa 1 1.0 free - -")
	unpack(t, c, pack("bb", "replaces aa", "file etc/a=b", "file etc/b=b"))
	stand(t, "taken", c, "aa 1 1.0 free - -")
	tells(t, "Remove", c.Remove("aa", false), api.OK)
	stand(t, "taken, and gone", c, gone("aa"))
	reads(t, "taken, and gone", c, "etc/a", "b", "bb")
}

// Promise 12.5: others that need it are told, by their names among all that are there, and nothing is done.
func TestRemoveNeeds(t *testing.T) {
	c, _ := fresh(t)
	install(t, c, pack("ee", "provides virtual"), pack("cc", "depends ee"), pack("dd", "ahead cc"), pack("aa", "depends ee | ff"), pack("ff"), pack("zz", "setting etc/z=z"))
	tells(t, "Remove", c.Remove("zz", false), api.OK)
	unpack(t, c, pack("bb", "depends ee"))
	calls := len(c.Calls())
	tellsAt(t, "ee", c.Remove("ee", true), api.ErrOrder, 2)
	tellsAt(t, "cc", c.Remove("cc", false), api.ErrOrder, 3)
	stand(t, "refused", c, "ee 7 1.0 free - -", "cc 7 1.0 free - -")
	if len(c.Calls()) != calls {
		t.Errorf("what was refused ran a script")
	}
	tells(t, "ff", c.Remove("ff", false), api.OK)
	tellsAt(t, "ee is the last one that aa depends on", c.Remove("ee", false), api.ErrOrder, 0)
	for _, name := range []string{"dd", "cc", "aa", "ee"} {
		tells(t, name, c.Remove(name, false), api.OK)
	}
	lists(t, "Names", c.Names(), "bb", "zz")
	tells(t, "Hold", c.Hold("zz", true), api.OK)
	tells(t, "held", c.Remove("zz", true), api.ErrState)
}

// Promise 12.5: held is told ahead of who needs it.
func TestRemoveHeld(t *testing.T) {
	c, _ := fresh(t)
	install(t, c, pack("bb"), pack("aa", "depends bb"))
	tells(t, "Hold", c.Hold("bb", true), api.OK)
	tells(t, "held", c.Remove("bb", true), api.ErrState)
	tells(t, "Hold", c.Hold("bb", false), api.OK)
	tellsAt(t, "needed", c.Remove("bb", true), api.ErrOrder, 0)
}

// Promise 12.5: unless its script does well, nothing changes.
func TestRemoveScript(t *testing.T) {
	for _, name := range []string{"aa", "bb", "cc", "ee"} {
		c, d := some(t)
		was := fmt.Sprint(files(d))
		c.Ends([]bool{false})
		tells(t, name, c.Remove(name, true), api.ErrFalse)
		stand(t, name, c, someStand()...)
		if is := fmt.Sprint(files(d)); is != was {
			t.Errorf("%s: the disk has %s, had %s", name, is, was)
		}
		if l := c.Calls(); l[len(l)-1] != (crew.Call{Name: name, What: crew.Leave}) {
			t.Errorf("%s: calls are %v", name, l)
		}
	}
	// Of settings alone none runs.
	c, _ := some(t)
	c.Ends([]bool{false})
	tells(t, "dd", c.Remove("dd", true), api.OK)
}

// Promise 12.5: nobody waits for one that went.
func TestRemoveWaits(t *testing.T) {
	c, _ := some(t)
	tells(t, "bb", c.Remove("bb", false), api.OK)
	stand(t, "bb", c, "aa 7 1.0 free - -", gone("bb"))

	c, _ = fresh(t)
	install(t, c, pack("b0", "listens bin", "setting etc/b=b"), pack("b1", "listens bin"), pack("aa", "file bin/x=1", "listens doc"), pack("cc", "file doc=1"))
	stand(t, "all", c, "aa 5 1.0 free b0,b1 doc", "cc 5 1.0 free aa -")
	tells(t, "b0", c.Remove("b0", false), api.OK)
	stand(t, "b0", c, "b0 1 1.0 free - -", "aa 5 1.0 free b1 doc", "cc 5 1.0 free aa -")
	tells(t, "b1", c.Remove("b1", true), api.OK)
	stand(t, "b1", c, gone("b1"), "aa 6 1.0 free - doc", "cc 5 1.0 free aa -")
	tells(t, "aa", c.Remove("aa", true), api.OK)
	stand(t, "aa", c, gone("aa"), "cc 7 1.0 free - -")
}

// Promise 12.5: what lies there of settings is what somebody made of it, when the package comes again.
func TestRemoveAndBack(t *testing.T) {
	c, _ := fresh(t)
	p := pack("aa", "file bin/x=1", "setting etc/x=1")
	install(t, c, p)
	tells(t, "Edit", c.Shelf().Edit("etc/x", "mine", false), api.OK)
	tells(t, "Remove", c.Remove("aa", false), api.OK)
	install(t, c, p)
	reads(t, "back", c, "etc/x", "mine", "aa")
	reads(t, "back", c, "bin/x", "1", "aa")
	tells(t, "Remove, all", c.Remove("aa", true), api.OK)
	install(t, c, p)
	reads(t, "new", c, "etc/x", "1", "aa")
}
