package disk

import "strings"

// entry is a file that is there. What is safe of it lies beside it as it is, so that nothing is safe of one that is not there.
type entry struct {
	now    string
	safe   string
	isSafe bool // what is safe may be empty
}

// settled is a file that is safe as it is.
func settled(s string) entry { return entry{now: s, safe: s, isSafe: true} }

// left is what stands of a file behind a power cut that keeps so many of its first bytes; false: nothing, not even an empty file.
func (e entry) left(keeps int) (string, bool) {
	if e.isSafe && e.now == e.safe {
		return e.now, true
	}
	if keeps <= 0 {
		return e.safe, e.isSafe
	}
	kept := min(keeps, len(e.now))
	behind := e.safe[min(kept, len(e.safe)):]
	// A copy, as a piece would keep the whole of what was written.
	return strings.Clone(e.now[:kept]) + behind, true
}
