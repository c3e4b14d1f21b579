package stanza

import (
	"strings"

	"stevedore/api"
)

// reader is what has been read of stanzas, line by line.
type reader struct {
	stanzas [][]api.Field
	fields  []api.Field // of the stanza that has not ended
	value   []byte      // of the last one of fields, which may go on: it is laid there when it has ended
}

// Parse reads stanzas, with empty lines between; lines that begin with # are nothing. ErrForm: a line is none, a name stands twice in one, or there are too many fields: an At at the line (from 0 on).
func Parse(s string) ([][]api.Field, error) {
	var r reader
	for i, more := 0, true; more; i++ {
		var line string
		line, s, more = strings.Cut(s, "\n")
		if !r.take(line) {
			return nil, &api.At{Err: api.ErrForm, Place: i}
		}
	}
	r.endStanza()
	return r.stanzas, nil
}

// take reads a line; false: it may not stand there.
func (r *reader) take(line string) bool {
	inner := strings.Trim(line, blanks)
	switch {
	case strings.HasPrefix(line, "#"):
		return true
	case inner == "":
		r.endStanza()
		return true
	case strings.IndexByte(blanks, line[0]) >= 0:
		return r.goOn(inner)
	}
	return r.begin(line)
}

// begin reads the first line of a field.
func (r *reader) begin(line string) bool {
	name, value, ok := strings.Cut(line, ":")
	value = strings.Trim(value, blanks)
	if !ok || !rightName(name) || !rightLine(value) {
		return false
	}
	if len(r.fields) == api.MaxFields || find(r.fields, name) >= 0 {
		return false
	}
	r.endField()
	r.fields = append(r.fields, api.Field{Name: strings.Clone(name)})
	r.value = append(r.value, value...)
	return true
}

// goOn reads another line of a field. A point ahead of it stands for nothing but that the line itself begins with one.
func (r *reader) goOn(line string) bool {
	if strings.HasPrefix(line, ".") {
		line = line[1:]
		if !strings.HasPrefix(line, ".") {
			return false
		}
	}
	if len(r.fields) == 0 || !rightLine(line) {
		return false
	}
	r.value = append(r.value, '\n')
	r.value = append(r.value, line...)
	return true
}

// endField lays what the last field says where it belongs.
func (r *reader) endField() {
	if n := len(r.fields); n > 0 {
		r.fields[n-1].Value = string(r.value)
	}
	r.value = r.value[:0]
}

// endStanza ends the stanza; one without fields is none.
func (r *reader) endStanza() {
	r.endField()
	if len(r.fields) > 0 {
		r.stanzas = append(r.stanzas, r.fields)
	}
	r.fields = nil
}
