package book

import (
	"maps"
	"slices"
	"strconv"
	"strings"

	"stevedore/disk"
)

// The files. What is read is never fresh: that is only what is on its way to another one.
const (
	pageFile  = "book/page"
	freshFile = "book/fresh"
	sheetHead = "book/"
)

// So many sheets are there. It is a prime number, so that names lie on all of them.
const sheets = 37

// sheetFile is where a sheet of notes lies.
func sheetFile(i int) string { return sheetHead + strconv.Itoa(i) }

// sheetOf is the sheet on which a name is noted.
func sheetOf(name string) int {
	var sum uint32
	for i := range len(name) {
		sum = sum*31 + uint32(name[i])
	}
	return int(sum % sheets)
}

// line is what is written at a name.
type line struct{ text string }

// lines are what is written, by names.
type lines map[string]line

// print is how lines lie in a file: each name, a tab, what is written there, a line feed.
func (l lines) print() string {
	var b strings.Builder
	for _, name := range slices.Sorted(maps.Keys(l)) {
		b.WriteString(name)
		b.WriteByte('\t')
		b.WriteString(l[name].text)
		b.WriteByte('\n')
	}
	return b.String()
}

// load reads the lines of a file: none, if it is not there.
func load(d *disk.Disk, file string) lines {
	l := lines{}
	s, err := d.Read(file)
	if err != nil {
		return l
	}
	for one := range strings.Lines(s) {
		name, text, _ := strings.Cut(strings.TrimSuffix(one, "\n"), "\t")
		l[name] = line{text}
	}
	return l
}
