package desk

import (
	"strings"

	"stevedore/api"
	"stevedore/crew"
	"stevedore/disk"
)

// So many words may stand behind a first one of which any many may: a text has no more bytes.
const anyMany = api.MaxText

// deed is what a line does that begins with a word: it is given all words, of which at least, and at most, so many stand behind the first one, and tells the answer.
type deed struct {
	do          func(words []string) string
	least, most int
}

// clerk answers lines, of the crew of a disk.
type clerk struct {
	disk  *disk.Disk
	crew  *crew.Crew
	added strings.Builder // for the next package that is unpacked
	deeds map[string]deed
}

func newClerk() *clerk {
	c := &clerk{disk: &disk.Disk{}}
	c.open()
	c.deeds = c.all()
	return c
}

// open lets the crew be the one that lies on the disk.
func (c *clerk) open() {
	// It tells an error only of a disk that is not there.
	c.crew, _ = crew.Open(c.disk)
}

// all are the deeds, by their words.
func (c *clerk) all() map[string]deed {
	return map[string]deed{
		"add":       {c.add, 0, anyMany},
		"all":       {c.configureAll, 0, 0},
		"asks":      {c.asks, 0, anyMany},
		"audit":     {c.audit, 0, 0},
		"calls":     {c.calls, 0, 0},
		"compare":   {c.compare, 2, 2},
		"configure": {c.configure, 1, 1},
		"crash":     {c.crash, 1, 1},
		"cut":       {c.cut, 1, 1},
		"edit":      {c.edit, 1, anyMany},
		"ends":      {c.ends, 0, anyMany},
		"files":     {c.files, 1, 1},
		"help":      {c.help, 0, 0},
		"helps":     {c.helps, 1, 1},
		"hold":      {c.hold, 2, 2},
		"names":     {c.names, 0, 0},
		"purge":     {c.purge, 1, 1},
		"read":      {c.read, 1, 1},
		"remove":    {c.remove, 1, 1},
		"room":      {c.room, 1, 1},
		"state":     {c.state, 1, 1},
		"tidy":      {c.tidy, 0, 0},
		"unpack":    {c.unpack, 0, anyMany},
	}
}

// answer is what a line is answered. Whatever is wrong is thrown where it is seen, and ends up here.
func (c *clerk) answer(line string) (s string) {
	defer func() {
		if thrown := recover(); thrown != nil {
			s = told(thrown)
		}
	}()
	words := strings.FieldsFunc(line, blank)
	if len(words) == 0 {
		return "ok"
	}
	d, ok := c.deeds[words[0]]
	if behind := len(words) - 1; !ok || behind < d.least || behind > d.most {
		throw(api.ErrForm)
	}
	return d.do(words)
}

// blank says whether a rune parts words. A tab does not: it may stand in one.
func blank(r rune) bool { return r == ' ' }
