package archive

import (
	"strconv"
	"strings"

	"stevedore/api"
	"stevedore/record"
	"stevedore/stanza"
)

// Read reads a package. ErrLimit: more than MaxBytes bytes; ErrForm: no stanza stands first, alone, an empty line behind it, or a file is none; record.Read's errors; ErrArg: it may not be.
func Read(s string) (api.Pack, error) {
	if len(s) > api.MaxBytes {
		return api.Pack{}, api.ErrLimit
	}
	head, rest, ok := strings.Cut(s, "\n\n")
	l, err := stanza.Parse(head)
	// Which line is wrong is not told: an archive's error has no place.
	if !ok || err != nil || len(l) != 1 {
		return api.Pack{}, api.ErrForm
	}
	p, err := record.Read(l[0])
	if err != nil {
		return api.Pack{}, err
	}
	p.Files, ok = readFiles(rest)
	switch {
	case !ok:
		return api.Pack{}, api.ErrForm
	case !Right(p):
		return api.Pack{}, api.ErrArg
	}
	return p, nil
}

// readFiles reads files to the end; false: one is none.
func readFiles(s string) ([]api.File, bool) {
	var l []api.File
	for s != "" {
		f, rest, ok := cutFile(s)
		if !ok {
			return nil, false
		}
		l, s = append(l, f), rest
	}
	return l, true
}

// cutFile reads a file, and tells what stands behind it; false: it is none. Its path is all that stands ahead of the line's first blank: whether it may be, Right says.
func cutFile(s string) (f api.File, rest string, ok bool) {
	line, rest, _ := strings.Cut(s, "\n")
	path, number, _ := strings.Cut(line, " ")
	n, ok := count(number, len(rest)-1)
	if !ok || rest[n] != '\n' {
		return api.File{}, "", false
	}
	f = api.File{Path: strings.Clone(path), Data: strings.Clone(rest[:n])}
	return f, rest[n+1:], true
}

// count reads a number as it is written, from 0 to the most there may be; false: it is none.
func count(s string, most int) (int, bool) {
	n, err := strconv.Atoi(s)
	ok := err == nil && 0 <= n && n <= most && strconv.Itoa(n) == s
	return n, ok
}
