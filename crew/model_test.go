package crew_test

import (
	"errors"
	"fmt"
	"maps"
	"slices"
	"strings"
	"testing"

	"stevedore/api"
	"stevedore/archive"
	"stevedore/check"
	"stevedore/crew"
	"stevedore/disk"
	"stevedore/shelf"
	"stevedore/status"
	"stevedore/version"
)

// one is what the document says of a package that is there.
type one struct {
	status status.Status
	pack   api.Pack
}

// model is what the document says of a crew; its files lie on a shelf over a disk that never fails.
type model struct {
	packs map[string]one
	disk  *disk.Disk
	ends  []bool
	calls []crew.Call
}

func newModel() *model { return &model{packs: map[string]one{}, disk: &disk.Disk{}} }

// copyDisk is another disk with the same files, all of them safe.
func copyDisk(d *disk.Disk) *disk.Disk {
	other := &disk.Disk{}
	for _, file := range d.List() {
		s, _ := d.Read(file)
		other.Write(file, s)
		other.Sync(file)
	}
	return other
}

// clone is another one, as it is.
func (m *model) clone() *model {
	return &model{maps.Clone(m.packs), copyDisk(m.disk), slices.Clone(m.ends), slices.Clone(m.calls)}
}

func (m *model) shelf() *shelf.Shelf {
	s, err := shelf.Over(m.disk)
	if err != nil {
		panic(err)
	}
	return s
}

func (m *model) names() []string { return slices.Sorted(maps.Keys(m.packs)) }

func (m *model) known() []check.Known {
	var l []check.Known
	for _, name := range m.names() {
		l = append(l, check.Known{Status: m.packs[name].status, Pack: m.packs[name].pack})
	}
	return l
}

// script runs one.
func (m *model) script(name string, what int) bool {
	well := true
	if len(m.ends) > 0 {
		well = m.ends[0]
		m.ends = m.ends[1:]
	}
	m.calls = append(m.calls, crew.Call{Name: name, What: what, Well: well})
	return well
}

// comes lets an event come, of which the document says that it may.
func (m *model) comes(name string, event int) {
	x := m.packs[name]
	state, err := status.Next(x.status.State, event)
	if err != nil {
		panic(fmt.Sprint(name, x, event))
	}
	x.status.State = state
	switch state {
	case api.None:
		delete(m.packs, name)
		return
	case api.Awaited:
	case api.Pending:
		x.status.Waits = nil
	default:
		x.status.Waits, x.status.Tasks = nil, nil
	}
	m.packs[name] = x
}

func (m *model) unpack(s string, answers []bool) error {
	p, err := archive.Read(s)
	if err != nil {
		return err
	}
	was, there := m.packs[p.Name]
	if !there && len(m.packs) == api.MaxPacks {
		return api.ErrFull
	}
	if err := check.Unpack(m.known(), p); err != nil {
		return err
	}
	takes := func(name string) bool {
		for _, t := range p.Replaces {
			if x, ok := m.packs[name]; ok && t.Name == name && version.Is(x.status.Version, t.Op, t.Version) {
				return true
			}
		}
		return false
	}
	if i, _ := m.shelf().Clash(p, takes); i >= 0 {
		return &api.At{Err: api.ErrTwice, Place: i}
	}
	if !m.script(p.Name, 1) {
		return api.ErrFalse
	}
	if err := m.shelf().Put(p, takes, answers); err != nil {
		panic(err)
	}
	p.Files = nil
	m.packs[p.Name] = one{status.Status{State: api.Unpacked, Version: p.Version, Held: was.status.Held}, p}
	return nil
}

func (m *model) configure(name string, with []string) error {
	x, ok := m.packs[name]
	if !ok {
		return api.ErrMissing
	}
	var about []int
	for i, other := range m.names() {
		if slices.Contains(with, other) {
			about = append(about, i)
		}
	}
	if err := check.Configure(m.known(), slices.Index(m.names(), name), about); err != nil {
		return err
	}
	m.comes(name, status.Starts)
	if !m.script(name, 2) {
		return api.ErrFalse
	}
	var waits []string
	for _, other := range m.names() {
		y := m.packs[other]
		state := y.status.State
		if other == name || len(waits) == 4 || state != api.Awaited && state != api.Pending && state != api.Installed {
			continue
		}
		if heard := m.heard(name, other); len(heard) > 0 {
			tasks := append(slices.Clone(y.status.Tasks), heard...)
			slices.Sort(tasks)
			tasks = slices.Compact(tasks)
			y.status.Tasks = tasks[:min(2, len(tasks))]
			m.packs[other] = y
			m.comes(other, status.Called)
			waits = append(waits, other)
		}
	}
	m.comes(name, status.Works)
	if len(waits) > 0 {
		x = m.packs[name]
		x.status.State, x.status.Waits = api.Awaited, waits
		m.packs[name] = x
	}
	return nil
}

// heard is what one listens for of another one's paths: of each path the first of Listens that it is, or that is above it.
func (m *model) heard(name, by string) []string {
	var l []string
	listens := m.packs[by].pack.Listens
	for _, path := range m.shelf().Paths(name) {
		first := len(listens)
		for ; path != ""; path = path[:max(0, strings.LastIndex(path, "/"))] {
			if i := slices.Index(listens, path); i >= 0 {
				first = min(first, i)
			}
		}
		if first < len(listens) {
			l = append(l, listens[first])
		}
	}
	return l
}

func (m *model) configureAll() (int, error) {
	var line []string
	for _, i := range check.Line(m.known()) {
		line = append(line, m.names()[i])
	}
	n := 0
	for _, name := range line {
		if m.configure(name, line) == nil {
			n++
		}
	}
	return n, nil
}

// release lets all that wait for one do so no more.
func (m *model) release(name string) {
	for other, x := range m.packs {
		if !slices.Contains(x.status.Waits, name) {
			continue
		}
		var waits []string
		for _, w := range x.status.Waits {
			if w != name {
				waits = append(waits, w)
			}
		}
		x.status.Waits = waits
		if len(waits) == 0 && len(x.status.Tasks) > 0 {
			x.status.State = api.Pending
		} else if len(waits) == 0 {
			x.status.State = api.Installed
		}
		m.packs[other] = x
	}
}

func (m *model) help(name string) error {
	x, ok := m.packs[name]
	switch {
	case !ok:
		return api.ErrMissing
	case x.status.State != api.Pending:
		return api.ErrState
	case !m.script(name, 4):
		m.comes(name, status.Fails)
		return api.ErrFalse
	}
	m.release(name)
	m.comes(name, status.Helped)
	return nil
}

func (m *model) remove(name string, all bool) error {
	x, ok := m.packs[name]
	switch {
	case !ok:
		return api.ErrMissing
	case x.status.Held:
		return api.ErrState
	case x.status.State != api.Config:
		if needs := check.Needs(m.known(), slices.Index(m.names(), name)); len(needs) > 0 {
			return &api.At{Err: api.ErrOrder, Place: needs[0]}
		}
		if !m.script(name, 3) {
			return api.ErrFalse
		}
		m.comes(name, status.Leaves)
		m.release(name)
	}
	if err := m.shelf().Drop(name, all); err != nil {
		panic(err)
	}
	switch {
	case len(m.shelf().Settings(name)) == 0:
		m.comes(name, status.Cleared)
	case x.status.State != api.Config:
		m.comes(name, status.Gone)
	}
	return nil
}

func (m *model) hold(name string, held bool) error {
	x, ok := m.packs[name]
	if !ok {
		return api.ErrMissing
	}
	x.status.Held = held
	m.packs[name] = x
	return nil
}

// deed is something that is done with a crew, or with what the document says of one.
type deed struct {
	what, name, text string
	yes              bool
	answers          []bool
	with             []string
}

// onModel does it with a model; onCrew with a crew.
func (x deed) onModel(m *model) (int, error) {
	switch x.what {
	case "unpack":
		return 0, m.unpack(x.text, x.answers)
	case "configure":
		return 0, m.configure(x.name, x.with)
	case "all":
		return m.configureAll()
	case "help":
		return 0, m.help(x.name)
	case "remove":
		return 0, m.remove(x.name, x.yes)
	case "hold":
		return 0, m.hold(x.name, x.yes)
	case "edit":
		return 0, m.shelf().Edit(x.name, x.text, x.yes)
	case "ends":
		m.ends = x.answers
	}
	return 0, nil
}

func (x deed) onCrew(c *crew.Crew) (int, error) {
	switch x.what {
	case "unpack":
		return 0, c.Unpack(x.text, x.answers)
	case "configure":
		return 0, c.Configure(x.name, x.with)
	case "all":
		return c.ConfigureAll()
	case "help":
		return 0, c.Help(x.name)
	case "remove":
		return 0, c.Remove(x.name, x.yes)
	case "hold":
		return 0, c.Hold(x.name, x.yes)
	case "edit":
		return 0, c.Shelf().Edit(x.name, x.text, x.yes)
	case "ends":
		c.Ends(x.answers)
	}
	return 0, c.Tidy()
}

// told is an error as a text, with its place.
func told(err error) string {
	var at *api.At
	if errors.As(err, &at) {
		return fmt.Sprint(int(at.Err), " at ", at.Place)
	}
	return fmt.Sprint(int(api.Tell(err)))
}

// look is all that can be seen of a crew, by what it is of.
type look map[string]string

// addShelf adds what lies on a shelf.
func (l look) addShelf(s *shelf.Shelf) {
	for _, owner := range s.Owners() {
		for _, path := range s.Paths(owner) {
			l["owner "+path] = owner
			if data, err := s.Read(path); err == nil {
				l["data "+path] = "has " + data
			}
		}
		for _, path := range s.Settings(owner) {
			l["setting "+path] = "yes"
		}
	}
}

func lookAt(c *crew.Crew) look {
	l := look{}
	for _, name := range c.Names() {
		l["status "+name] = fmt.Sprint(c.Status(name))
		p, err := c.Pack(name)
		l["says "+name] = fmt.Sprint(p, told(err))
	}
	l["audit"] = fmt.Sprint(c.Audit())
	l.addShelf(c.Shelf())
	return l
}

func (m *model) look() look {
	l := look{}
	var audit []string
	for _, name := range m.names() {
		x := m.packs[name]
		l["status "+name] = fmt.Sprint(x.status)
		l["says "+name] = fmt.Sprint(x.pack, told(nil))
		if x.status.State != api.Installed && x.status.State != api.Config {
			audit = append(audit, name)
		}
	}
	l["audit"] = fmt.Sprint(audit)
	l.addShelf(m.shelf())
	return l
}

// same tests that a crew is as the document says.
func same(t *testing.T, what string, c *crew.Crew, want look) {
	t.Helper()
	got := lookAt(c)
	for _, key := range slices.Sorted(maps.Keys(both(got, want))) {
		if got[key] != want[key] {
			t.Errorf("%s: %s: %q, want %q", what, key, got[key], want[key])
		}
	}
}

// both has the keys of both.
func both(a, b look) look {
	l := maps.Clone(a)
	maps.Copy(l, b)
	return l
}

// die tells numbers that look drawn, the same ones each time.
type die uint64

func (d *die) below(most int) int {
	*d = *d*6364136223846793005 + 1442695040888963407
	return int(uint64(*d>>33) % uint64(most))
}

// of is one of some; yes is so about once in so many.
func (d *die) of(l ...string) string { return l[d.below(len(l))] }
func (d *die) yes(of int) bool       { return d.below(of) == 0 }

// name is a package's.
func (d *die) name() string { return d.of("aa", "bb", "cc", "dd", "ee", "ff") }

// terms are what is asked for.
func (d *die) terms(word string) string {
	s := word + " " + d.name()
	for d.yes(3) {
		s += d.of(", ", " | ")
		s += d.of(d.name(), d.name()+" (>= 1.0)", d.name()+" (<< 2)", "virtual")
	}
	return s
}

// pack is a package.
func (d *die) pack() api.Pack {
	var l []string
	if d.yes(3) {
		l = append(l, d.terms("depends"))
	}
	for _, x := range []struct {
		word string
		of   int
	}{{"ahead", 12}, {"against", 14}, {"breaks", 14}, {"replaces", 2}, {"provides", 5}} {
		if !d.yes(x.of) {
			continue
		}
		switch x.word {
		case "ahead":
			l = append(l, d.terms(x.word))
		case "provides":
			l = append(l, d.of("provides virtual", "provides virtual (= 2)", "provides aa"))
		default:
			l = append(l, strings.ReplaceAll(d.terms(x.word), " | ", ", "))
		}
	}
	if !d.yes(4) {
		l = append(l, d.of("listens bin", "listens bin/x etc", "listens doc lib", "listens lib/a bin", "listens bin bin/x", "listens lib/a lib etc bin/y bin"))
	}
	for _, path := range []string{"bin/x", "bin/y", "etc/a", "etc/b", "lib/a/b", "doc"} {
		if d.yes(4) {
			l = append(l, d.of("file ", "file ", "setting ")+path+"="+d.of("1", "2", "", "long\nlines"))
		}
	}
	return pack(d.name()+"="+d.of("0.9", "1.0", "1.1", "2"), l...)
}

// deed is something that may be done.
func (d *die) deed() deed {
	x := deed{name: d.name(), yes: d.yes(2), answers: []bool{d.yes(2), d.yes(2)}}
	switch k := d.below(24); {
	case k < 9:
		x.what, x.text = "unpack", text(d.pack())
	case k < 12:
		x.what, x.with = "configure", []string{d.name(), "zz", d.name()}
	case k < 14:
		x.what = "all"
	case k < 17:
		x.what = "help"
	case k < 20:
		x.what = "remove"
	case k == 20:
		x.what, x.yes = "hold", d.yes(4)
	case k == 21:
		x.what = "ends"
	default:
		x.what, x.name, x.text, x.yes = "edit", d.of("etc/a", "etc/b", "bin/x"), d.of("mine", "1"), d.yes(4)
	}
	return x
}

// step does one with both, and tests that both tell the same, and are the same.
func step(t *testing.T, what string, c *crew.Crew, m *model, x deed) {
	t.Helper()
	ran, runs := len(c.Calls()), len(m.calls)
	n, err := x.onCrew(c)
	wantN, want := x.onModel(m)
	if n != wantN || told(err) != told(want) {
		t.Errorf("%s: %d, error %s, want %d, error %s", what, n, told(err), wantN, told(want))
	}
	if got, want := fmt.Sprint(c.Calls()[ran:]), fmt.Sprint(m.calls[runs:]); got != want {
		t.Errorf("%s: calls are %s, want %s", what, got, want)
	}
	same(t, what, c, m.look())
	if c.Down() {
		t.Errorf("%s: it is Down", what)
	}
}

// Promises 12.1 to 12.5: whatever is done, all is as the document's words say.
func TestModel(t *testing.T) {
	r := die(12)
	count := map[string]int{}
	for range 400 {
		d, m, what := &disk.Disk{}, newModel(), ""
		c := open(t, d)
		for range 40 {
			x := r.deed()
			what += fmt.Sprintf("%q; ", fmt.Sprint(x))
			step(t, what, c, m, x)
			if t.Failed() {
				return
			}
			for _, y := range m.packs {
				count[fmt.Sprint("state ", y.status.State)]++
				count[fmt.Sprint("waits ", len(y.status.Waits))]++
				count[fmt.Sprint("tasks ", len(y.status.Tasks))]++
			}
			if r.yes(10) {
				d.Start(r.below(9))
				c = open(t, d)
				m.ends = nil
				same(t, what+"opened anew", c, m.look())
			}
		}
	}
	// The test is worth nothing, if that is not met.
	for _, s := range []string{"state 1", "state 3", "state 4", "state 5", "state 6", "state 7", "waits 1", "waits 2", "waits 3", "tasks 1", "tasks 2"} {
		if count[s] < 20 {
			t.Errorf("%s: %d times", s, count[s])
		}
	}
}
