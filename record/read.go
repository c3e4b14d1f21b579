package record

import (
	"strings"

	"stevedore/api"
	"stevedore/depend"
	"stevedore/stanza"
	"stevedore/version"
)

// reader has the fields of a stanza, and the first error of those that were read.
type reader struct {
	fields []api.Field
	err    error
}

// Read is the package that a stanza is: other fields are nothing. ErrMissing: it has no Package, or no Version; ErrForm, ErrLimit: a field says what may not be; ErrArg: it is a package that may not be.
func Read(l []api.Field) (api.Pack, error) {
	name, named := stanza.Get(l, fieldName)
	if _, ok := stanza.Get(l, fieldVersion); !named || !ok {
		return api.Pack{}, api.ErrMissing
	}
	r := &reader{fields: l}
	// The calls are made from the top down, so that of several errors the one told first is kept.
	p := api.Pack{
		Name:     name,
		Version:  read(r, fieldVersion, version.Parse),
		Depends:  read(r, fieldDepends, depend.Terms),
		Ahead:    read(r, fieldAhead, depend.Terms),
		Against:  read(r, fieldAgainst, depend.List),
		Breaks:   read(r, fieldBreaks, depend.List),
		Replaces: read(r, fieldReplaces, depend.List),
		Provides: read(r, fieldProvides, depend.List),
		Settings: read(r, fieldSettings, parsePaths),
		Listens:  read(r, fieldListens, parsePaths),
	}
	if r.err != nil {
		return api.Pack{}, r.err
	}
	if !Right(p) {
		return api.Pack{}, api.ErrArg
	}
	return p, nil
}

// read is what a field says, by a function that reads it; nothing, if it is not there, or behind an error.
func read[T any](r *reader, name string, parse func(string) (T, error)) T {
	var x T
	s, ok := stanza.Get(r.fields, name)
	if ok && r.err == nil {
		x, r.err = parse(s)
	}
	return x
}

// parsePaths reads lines behind an empty one. Whether they are paths, Right says: so that nothing long is made in vain, no more are cut than it needs to see that there are too many.
func parsePaths(s string) ([]string, error) {
	rest, ok := strings.CutPrefix(s, "\n")
	if !ok {
		return nil, api.ErrForm
	}
	return strings.SplitN(rest, "\n", api.MaxPaths+1), nil
}
