package desk

import (
	"cmp"
	"maps"
	"slices"
	"strconv"
	"strings"

	"stevedore/api"
	"stevedore/depend"
	"stevedore/status"
	"stevedore/version"
)

// So many bytes may be the room of a disk.
const maxRoom = 1_000_000

func (c *clerk) compare(words []string) string {
	a, b := got(version.Parse(words[1])), got(version.Parse(words[2]))
	return strconv.Itoa(cmp.Compare(version.Compare(a, b), 0))
}

func (c *clerk) asks(words []string) string {
	l := got(depend.Terms(rest(words[1:])))
	return words[0] + " " + got(depend.Print(l))
}

func (c *clerk) add(words []string) string {
	c.added.WriteString(rest(words[1:]))
	c.added.WriteByte('\n')
	return words[0]
}

// unpack forgets what was added, whatever becomes of it, so that the next package begins anew; but a line that can't be read does nothing.
func (c *clerk) unpack(words []string) string {
	answers := allYes(words[1:])
	added := c.added.String()
	c.added.Reset()
	throw(c.crew.Unpack(added, answers))
	return words[0]
}

func (c *clerk) configure(words []string) string {
	throw(c.crew.Configure(words[1], nil))
	return words[0]
}

func (c *clerk) configureAll([]string) string { return strconv.Itoa(got(c.crew.ConfigureAll())) }

func (c *clerk) helps(words []string) string {
	throw(c.crew.Help(words[1]))
	return words[0]
}

func (c *clerk) remove(words []string) string {
	throw(c.crew.Remove(words[1], false))
	return words[0]
}

func (c *clerk) purge(words []string) string {
	throw(c.crew.Remove(words[1], true))
	return words[0]
}

func (c *clerk) hold(words []string) string {
	held := yes(words[2])
	throw(c.crew.Hold(words[1], held))
	return words[0]
}

func (c *clerk) tidy(words []string) string {
	throw(c.crew.Tidy())
	return words[0]
}

func (c *clerk) edit(words []string) string {
	data := words[2:]
	throw(c.crew.Shelf().Edit(words[1], rest(data), len(data) == 0))
	return words[0]
}

func (c *clerk) ends(words []string) string {
	c.crew.Ends(allYes(words[1:]))
	return words[0]
}

func (c *clerk) cut(words []string) string {
	c.disk.Cut(number(words[1]))
	return words[0]
}

func (c *clerk) room(words []string) string {
	bytes := number(words[1])
	if bytes > maxRoom {
		throw(api.ErrRange)
	}
	c.disk.Room(bytes)
	return words[0]
}

func (c *clerk) crash(words []string) string {
	c.disk.Start(number(words[1]))
	c.open()
	return words[0]
}

func (c *clerk) state(words []string) string { return got(status.Print(c.crew.Status(words[1]))) }

func (c *clerk) files(words []string) string {
	return each(words[0], c.crew.Shelf().Paths(words[1]))
}

func (c *clerk) read(words []string) string {
	s, path := c.crew.Shelf(), words[1]
	return shown(got(s.Read(path))) + " " + s.Owner(path)
}

func (c *clerk) names(words []string) string { return each(words[0], c.crew.Names()) }

func (c *clerk) audit(words []string) string { return each(words[0], c.crew.Audit()) }

func (c *clerk) calls(words []string) string {
	var l []string
	for _, call := range c.crew.Calls() {
		l = append(l, call.Name+" "+strconv.Itoa(call.What)+" "+strconv.FormatBool(call.Well))
	}
	return words[0] + " " + strings.Join(l, ", ")
}

func (c *clerk) help([]string) string { return rest(slices.Sorted(maps.Keys(c.deeds))) }
