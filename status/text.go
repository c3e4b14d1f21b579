package status

import (
	"strconv"
	"strings"

	"stevedore/api"
	"stevedore/version"
)

// The words of a status, and what stands in the place of a version or a list that is not there.
const (
	held    = "held"
	free    = "free"
	nothing = "-"
)

// So many words a status has.
const words = 5

// Print writes a status as words: the state, the version, held or free, who waits, and tasks (with commas between; - of none). ErrArg: it may not be.
func Print(s Status) (string, error) {
	if !Right(s) {
		return "", api.ErrArg
	}
	var b strings.Builder
	list := func(l []string) {
		b.WriteByte(' ')
		if len(l) == 0 {
			b.WriteString(nothing)
		}
		for i, text := range l {
			if i > 0 {
				b.WriteByte(',')
			}
			b.WriteString(text)
		}
	}
	b.WriteString(strconv.Itoa(s.State))
	b.WriteByte(' ')
	b.WriteString(printVersion(s))
	b.WriteByte(' ')
	b.WriteString(printHeld(s.Held))
	list(s.Waits)
	list(s.Tasks)
	return b.String(), nil
}

// Parse reads a status. ErrForm: it is none.
func Parse(s string) (Status, error) {
	// One word more than there may be is enough to see that there are too many.
	read, ok := readWords(strings.SplitN(s, " ", words+1))
	if !ok {
		return Status{}, api.ErrForm
	}
	// What is read may be written in more ways than one (a nought ahead, an epoch of 0): just the way of Print is one.
	if text, err := Print(read); err != nil || text != s {
		return Status{}, api.ErrForm
	}
	return read, nil
}

// readWords makes of words a status, Right or not; false: it can be none.
func readWords(l []string) (Status, bool) {
	if len(l) != words {
		return Status{}, false
	}
	state, err := strconv.Atoi(l[0])
	if err != nil {
		return Status{}, false
	}
	v, ok := readVersion(l[1])
	if !ok {
		return Status{}, false
	}
	return Status{
		State:   state,
		Version: v,
		Held:    l[2] == held,
		Waits:   readList(l[3], maxWaits),
		Tasks:   readList(l[4], maxTasks),
	}, true
}

// printVersion is the version of a status that is Right: None has none.
func printVersion(s Status) string {
	if s.State == api.None {
		return nothing
	}
	return version.Print(s.Version)
}

// readVersion reads a version, or that there is none; false: it is neither.
func readVersion(s string) (api.Version, bool) {
	if s == nothing {
		return api.Version{}, true
	}
	v, err := version.Parse(s)
	return v, err == nil
}

func printHeld(is bool) string {
	if is {
		return held
	}
	return free
}

// readList reads a list of at most so many texts; of a longer one a text more is read, which is enough for it not to be Right. An answer shares no memory with what was handed in: the texts are cut from a copy.
func readList(s string, most int) []string {
	if s == nothing {
		return nil
	}
	return strings.SplitN(strings.Clone(s), ",", most+1)
}
