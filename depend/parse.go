package depend

import (
	"iter"
	"strings"

	"stevedore/api"
	"stevedore/version"
)

// What is nothing at both ends of a term, ahead of its ( , and at both ends of its version.
const blanks = " \t\n"

// Terms reads what is asked for, with commas between, each: one of some, with | between. ErrForm; ErrLimit: more than MaxTerms packages.
func Terms(s string) ([][]api.Term, error) {
	if strings.Trim(s, blanks) == "" {
		return nil, nil
	}
	var l [][]api.Term
	n := 0
	for i, text := range pieces(s) {
		t, ok := parseTerm(text)
		if !ok {
			return nil, api.ErrForm
		}
		if n == api.MaxTerms {
			return nil, api.ErrLimit
		}
		n++
		if i == len(l) {
			l = append(l, nil)
		}
		l[i] = append(l[i], t)
	}
	return l, nil
}

// List reads packages, with commas between (none of them one of some). ErrForm; ErrLimit.
func List(s string) ([]api.Term, error) {
	l, err := Terms(s)
	if err != nil {
		return nil, err
	}
	var out []api.Term
	for _, some := range l {
		if len(some) > 1 {
			return nil, api.ErrForm
		}
		out = append(out, some...)
	}
	return out, nil
}

// pieces goes through what may be terms in a text, from the left, each with the number of what is asked for of which it is one. It cuts no more than is taken, so that what stands behind a fault is not read.
func pieces(s string) iter.Seq2[int, string] {
	return func(yield func(int, string) bool) {
		rest := s
		for i, more := 0, true; more; i++ {
			var some string
			some, rest, more = strings.Cut(rest, ",")
			for others := true; others; {
				var text string
				text, some, others = strings.Cut(some, "|")
				if !yield(i, text) {
					return
				}
			}
		}
	}
}

// parseTerm reads a term; false: it is none.
func parseTerm(s string) (api.Term, bool) {
	name, asked, more := strings.Cut(strings.Trim(s, blanks), "(")
	name = strings.TrimRight(name, blanks)
	if !Name(name) {
		return api.Term{}, false
	}
	// An answer shares no memory with what was handed in.
	t := api.Term{Name: strings.Clone(name)}
	if !more {
		return t, true
	}
	asked, ended := strings.CutSuffix(asked, ")")
	op, asked := cutSign(asked)
	v, ok := parseVersion(strings.Trim(asked, blanks))
	if !ended || op == api.Any || !ok {
		return api.Term{}, false
	}
	t.Op, t.Version = op, v
	return t, true
}

// cutSign cuts a sign from the beginning of a text, and tells its Op; Any: none stands there. No sign begins with another one, so their order says nothing.
func cutSign(s string) (int, string) {
	for op := api.Any + 1; op < len(signs); op++ {
		if rest, ok := strings.CutPrefix(s, signs[op]); ok {
			return op, rest
		}
	}
	return api.Any, s
}

// parseVersion reads a version as a term has it: as Print writes it. Parse alone would take an epoch of 0, too, which is never written.
func parseVersion(s string) (api.Version, bool) {
	v, err := version.Parse(s)
	if err != nil || version.Print(v) != s {
		return api.Version{}, false
	}
	return v, true
}
