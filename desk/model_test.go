package desk_test

import (
	"fmt"
	"maps"
	"regexp"
	"slices"
	"strconv"
	"strings"
	"testing"

	"stevedore/api"
	"stevedore/archive"
	"stevedore/crew"
	"stevedore/depend"
	"stevedore/desk"
	"stevedore/disk"
	"stevedore/status"
	"stevedore/version"
)

// model is what the document says of a session: a disk, a crew over it, and what was added.
type model struct {
	disk  *disk.Disk
	crew  *crew.Crew
	added string
}

func newModel() *model {
	m := &model{disk: &disk.Disk{}}
	m.crew, _ = crew.Open(m.disk)
	return m
}

var (
	decimal = regexp.MustCompile(`^(0|-?[1-9][0-9]*)$`)
	fields  = regexp.MustCompile(`[^ ]+`)
)

// modelNumber is one of 64 bits.
func modelNumber(s string) (int, bool) {
	n, err := strconv.Atoi(s)
	return n, err == nil && decimal.MatchString(s)
}

// modelYes is any many of y and n.
func modelYes(l []string) ([]bool, bool) {
	var out []bool
	for _, s := range l {
		if s != "y" && s != "n" {
			return nil, false
		}
		out = append(out, s == "y")
	}
	return out, true
}

// told is the word, or an error.
func told(word string, err error) string {
	if err != nil {
		return fmt.Sprint("error ", int(api.Tell(err)))
	}
	return word
}

// answer is what a line is answered.
func (m *model) answer(s string) string {
	w := fields.FindAllString(s, -1)
	if len(w) == 0 {
		return "ok"
	}
	word, w := w[0], w[1:]
	switch word {
	case "compare", "hold":
		if len(w) != 2 {
			return "error 3"
		}
	case "configure", "helps", "remove", "purge", "crash", "cut", "room", "state", "files", "read":
		if len(w) != 1 {
			return "error 3"
		}
	case "tidy", "all", "names", "audit", "calls", "help":
		if len(w) != 0 {
			return "error 3"
		}
	case "edit":
		if len(w) == 0 {
			return "error 3"
		}
	case "asks", "add", "unpack", "ends":
	default:
		return "error 3"
	}
	if word == "crash" || word == "cut" || word == "room" {
		return m.number(word, w[0])
	}
	return m.words(word, w)
}

// number is what a line with a number does.
func (m *model) number(word, s string) string {
	n, ok := modelNumber(s)
	if !ok {
		return "error 3"
	}
	switch word {
	case "crash":
		m.disk.Start(n)
		m.crew, _ = crew.Open(m.disk)
	case "cut":
		m.disk.Cut(n)
	case "room":
		if n > 1000000 {
			return "error 2"
		}
		m.disk.Room(n)
	}
	return word
}

// words is what another line does.
func (m *model) words(word string, w []string) string {
	switch word {
	case "compare":
		a, err := version.Parse(w[0])
		b, err2 := version.Parse(w[1])
		if err != nil || err2 != nil {
			return "error 3"
		}
		switch n := version.Compare(a, b); {
		case n < 0:
			return "-1"
		case n > 0:
			return "1"
		}
		return "0"
	case "asks":
		l, err := depend.Terms(strings.Join(w, " "))
		s, _ := depend.Print(l)
		return told("asks "+s, err)
	case "add":
		m.added += strings.Join(w, " ") + "\n"
		return word
	case "unpack":
		l, ok := modelYes(w)
		if !ok {
			return "error 3"
		}
		s := m.added
		m.added = ""
		return told(word, m.crew.Unpack(s, l))
	case "ends":
		l, ok := modelYes(w)
		if !ok {
			return "error 3"
		}
		m.crew.Ends(l)
		return word
	case "hold":
		l, ok := modelYes(w[1:])
		if !ok {
			return "error 3"
		}
		return told(word, m.crew.Hold(w[0], l[0]))
	}
	return m.crewWords(word, w)
}

// crewWords is what a line does that asks the crew alone.
func (m *model) crewWords(word string, w []string) string {
	switch word {
	case "configure":
		return told(word, m.crew.Configure(w[0], nil))
	case "helps":
		return told(word, m.crew.Help(w[0]))
	case "remove", "purge":
		return told(word, m.crew.Remove(w[0], word == "purge"))
	case "tidy":
		return told(word, m.crew.Tidy())
	case "all":
		n, err := m.crew.ConfigureAll()
		return told(fmt.Sprint(n), err)
	case "edit":
		return told(word, m.crew.Shelf().Edit(w[0], strings.Join(w[1:], " "), len(w) == 1))
	case "state":
		s, _ := status.Print(m.crew.Status(w[0]))
		return s
	case "files":
		return strings.Join(append([]string{word}, m.crew.Shelf().Paths(w[0])...), " ")
	case "names":
		return strings.Join(append([]string{word}, m.crew.Names()...), " ")
	case "audit":
		return strings.Join(append([]string{word}, m.crew.Audit()...), " ")
	case "read":
		s, err := m.crew.Shelf().Read(w[0])
		return told(modelShown(s)+" "+m.crew.Shelf().Owner(w[0]), err)
	case "calls":
		var l []string
		for _, c := range m.crew.Calls() {
			l = append(l, fmt.Sprint(c.Name, " ", c.What, " ", c.Well))
		}
		return "calls " + strings.Join(l, ", ")
	case "help":
		return "add all asks audit calls compare configure crash cut edit ends files help helps hold names purge read remove room state tidy unpack"
	}
	panic(word)
}

// modelShown is a text, shown.
func modelShown(s string) string {
	out := ""
	for _, c := range []byte(s) {
		if c < 33 || c > 126 || c == '%' {
			out += fmt.Sprintf("%%%02x", c)
		} else {
			out += string(rune(c))
		}
	}
	return `"` + out + `"`
}

// session is what the document says that a text is answered.
func session(text string) string {
	if len(text) > 20000 {
		return "error 4\n"
	}
	m, out := newModel(), ""
	for _, s := range strings.Split(strings.TrimSuffix(text, "\n"), "\n") {
		out += m.answer(s) + "\n"
	}
	return out
}

// die: numbers that look drawn, the same each time.
type die uint64

func (d *die) n(most int) int {
	*d = *d*6364136223846793005 + 1442695040888963407
	return int(uint64(*d>>33) % uint64(most))
}

// of is one of some.
func (d *die) of(l ...string) string { return l[d.n(len(l))] }

// pack is a package as lines that add it, perhaps with a fault, perhaps not to its end.
func (d *die) pack() string {
	name := d.of("aa", "bb", "cc", "dd")
	p := api.Pack{Name: name, Version: api.Version{Upstream: d.of("1.0", "1.0~a", "2", "1.10")}}
	if d.n(3) == 0 {
		p.Depends = [][]api.Term{{{Name: d.of("aa", "bb", "cc", "dd")}, {Name: d.of("aa", "virtual")}}}
	}
	if d.n(4) == 0 {
		p.Replaces = []api.Term{{Name: d.of("aa", "bb", "cc", "dd")}}
	}
	if d.n(6) == 0 {
		p.Provides = []api.Term{{Name: "virtual"}}
	}
	if d.n(3) == 0 {
		p.Listens = []string{d.of("bin", "etc", "bin/x")}
	}
	for _, path := range []string{"bin/x", "bin/y", "etc/x", "etc/y"} {
		if d.n(3) == 0 {
			p.Files = append(p.Files, api.File{Path: path, Data: d.of("a", "b", "", "a\nb", "%\x80\t\"", name)})
			if strings.HasPrefix(path, "etc") {
				p.Settings = append(p.Settings, path)
			}
		}
	}
	s, err := archive.Write(p)
	if err != nil {
		panic(err)
	}
	if d.n(12) == 0 {
		s = s[:d.n(len(s))]
	}
	out := ""
	for line := range strings.Lines(s) {
		line = strings.TrimSuffix(line, "\n")
		if strings.HasPrefix(line, " ") {
			// A blank ahead would be lost.
			line = "\t" + line[1:]
		}
		out += "add " + line + "\n"
	}
	return out + d.of("unpack\n", "unpack\n", "unpack y\n", "unpack n y\n", "unpack x\nunpack\n", "")
}

// word is a line of the table, perhaps with a fault.
func (d *die) word() string {
	name := d.of("aa", "bb", "cc", "dd")
	path := d.of("bin/x", "bin/y", "etc/x", "etc/y", "z")
	number := d.of("-1", "0", "1", "3", "7", "12", "30", "100", "1000000", "1000001", "x", "01")
	yes := d.of("y", "n", "y", "n", "x")
	return d.of(
		"all", "all", "configure "+name, "configure "+name, "helps "+name, "helps "+name, "remove "+name, "purge "+name, "hold "+name+" "+yes,
		"state "+name, "files "+name, "read "+path, "edit "+path, "edit "+path+" mine", "edit "+path+"  a  b ", "names", "audit", "calls", "tidy",
		"ends", "ends "+yes+" "+d.of("y", "n"), "cut "+number, "room "+number, "crash "+number, "crash 0", "crash 3", "cut -1\nroom -1\ncrash 0",
		"compare "+d.of("1", "1.0", "1:1", "x")+" "+d.of("1", "1.0~", "0:1", "-"), "asks "+d.of("aa", "aa|bb,cc", "a", "", "aa (>= 1)"), "help", "", "  ", "x", "add", "add "+name, name, "names "+name)
}

// text is a session; in some of them the disk does what it is told.
func (d *die) text(most int) string {
	s := ""
	calm := d.n(2) == 0
	for range d.n(most) {
		word := d.word()
		switch {
		case d.n(4) == 0:
			s += d.pack()
		case calm && (strings.HasPrefix(word, "cut") || strings.HasPrefix(word, "room")):
			s += "all\n"
		default:
			s += d.of("", "", " ") + word + d.of("\n", "\n", " \n", "  \n")
		}
	}
	if d.n(4) == 0 {
		s = strings.TrimSuffix(s, "\n")
	}
	return s
}

// Promise 13.1: whatever a text has, it is answered as the document says.
func TestModel(t *testing.T) {
	d := die(13)
	seen := map[string]int{}
	for range 3000 {
		s := d.text(60)
		got, want := desk.Session(s), session(s)
		if got != want {
			l, m, n := strings.Split(s, "\n"), strings.Split(got, "\n"), strings.Split(want, "\n")
			for i := range min(len(l), len(m), len(n)) {
				if m[i] != n[i] {
					t.Fatalf("%q: line %d, %q: %q, the document asks %q", s, i, l[i], m[i], n[i])
				}
			}
			t.Fatalf("%q: %q, the document asks %q", s, got, want)
		}
		for line := range strings.Lines(got) {
			word, _, _ := strings.Cut(strings.TrimSuffix(line, "\n"), " ")
			if word == "error" {
				word = strings.TrimSuffix(line, "\n")
			}
			seen[word]++
		}
	}
	// What is drawn must come to all of this, else it tells little.
	for _, s := range []string{"error 2", "error 3", "error 6", "error 7", "error 9", "error 10", "error 12", "error 13", "error 14", "ok", "unpack", "configure", "helps", "remove", "purge", "hold", "edit", "crash", "tidy", "5", "6", "7"} {
		if seen[s] < 5 {
			t.Errorf("%q was seen %d times", s, seen[s])
		}
	}
}

// Promise 13.1, P1: any bytes are answered, line by line, and twice the same.
func TestAnyBytes(t *testing.T) {
	d := die(14)
	words := slices.Sorted(maps.Keys(forms))
	for range 4000 {
		b := []byte{}
		for range d.n(60) {
			switch d.n(4) {
			case 0:
				b = append(b, words[d.n(len(words))]...)
			case 1:
				b = append(b, byte(d.n(256)))
			case 2:
				b = append(b, ' ')
			default:
				b = append(b, d.of("aa", "y", "n", "0", "-1", "\n", "\n", "1.0", "bin/x", "\t", "Package: aa", "Version: 1")...)
			}
		}
		s := string(b)
		got := desk.Session(s)
		if want := session(s); got != want {
			t.Fatalf("%q: %q, the document asks %q", s, got, want)
		}
		if again := desk.Session(s); again != got {
			t.Fatalf("%q: %q, and again %q", s, got, again)
		}
		if strings.Contains(got, "error -1") {
			t.Fatalf("%q: %q: an error without a number", s, got)
		}
	}
}

// Promise 13.1 (12.6): wherever the power is cut, what is done again behind a crash is done.
func TestPower(t *testing.T) {
	add := func(s string) string {
		out := ""
		for line := range strings.Lines(s) {
			out += "add " + line
		}
		return out
	}
	tells := "names\nstate aa\nstate cc\nfiles aa\nread bin/x\nread etc/x\naudit\n"
	begin := add(cc) + "unpack\nconfigure cc\n"
	does := add(aa) + "unpack\nconfigure aa\nhelps cc\n"
	want := desk.Session(begin + does + tells)
	want = want[len(want)-len("names aa cc\n7 1.0 free - -\n7 1.0 free - -\nfiles bin/x etc/x\n\"hi\" aa\n\"old\" aa\naudit\n"):]
	cut := false
	for n := range 60 {
		for keeps := range 4 {
			text := begin + "cut " + strconv.Itoa(n) + "\n" + does + "crash " + strconv.Itoa(keeps) + "\n" + does + tells
			got := desk.Session(text)
			cut = cut || strings.Contains(got, "error 14\n")
			if !strings.HasSuffix(got, want) {
				t.Errorf("cut %d, crash %d: %q: it does not end as without a cut, %q", n, keeps, got, want)
			}
		}
	}
	if !cut {
		t.Errorf("the power was never cut")
	}
}
