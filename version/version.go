// Package version: versions, and their order.
package version

import (
	"strconv"
	"strings"

	"stevedore/api"
)

// An epoch is below this one, and so has at most that many digits.
const (
	epochEnd    = 1_000_000_000
	epochDigits = 9
)

// What may stand in both parts beside digits and letters.
const signs = ".+~"

// Right says whether a version may be: an epoch from 0 to below 10^9; upstream begins with a digit, and has digits, letters, . + ~ (and : , if the epoch is above 0; and - , if there is a revision); revision has digits, letters, . + ~ , or nothing; all in all at most MaxVersion bytes, as it is written.
func Right(v api.Version) bool {
	return 0 <= v.Epoch && v.Epoch < epochEnd && fits(v) &&
		v.Upstream != "" && digit(v.Upstream[0]) &&
		madeOf(v.Upstream, upstreamSigns(v)) && madeOf(v.Revision, signs)
}

// Print writes a version: the epoch and a colon, if it is not 0; upstream; a - and the revision, if there is one.
func Print(v api.Version) string {
	var b []byte
	if v.Epoch != 0 {
		b = strconv.AppendInt(b, int64(v.Epoch), 10)
		b = append(b, ':')
	}
	b = append(b, v.Upstream...)
	if v.Revision != "" {
		b = append(b, '-')
		b = append(b, v.Revision...)
	}
	return string(b)
}

// Parse reads a version: what stands ahead of the first colon is the epoch, behind the last - the revision. ErrForm: it is none.
func Parse(s string) (api.Version, error) {
	if len(s) > api.MaxVersion {
		return api.Version{}, api.ErrForm
	}
	// An answer shares no memory with what was handed in: its parts are cut from a copy.
	v := api.Version{Upstream: strings.Clone(s)}
	if head, rest, ok := strings.Cut(v.Upstream, ":"); ok {
		epoch, ok := parseEpoch(head)
		if !ok {
			return api.Version{}, api.ErrForm
		}
		v.Epoch, v.Upstream = epoch, rest
	}
	if i := strings.LastIndexByte(v.Upstream, '-'); i >= 0 {
		v.Upstream, v.Revision = v.Upstream[:i], v.Upstream[i+1:]
		// Right takes an empty revision for one that is left out, but here a - tells of one.
		if v.Revision == "" {
			return api.Version{}, api.ErrForm
		}
	}
	if !Right(v) {
		return api.Version{}, api.ErrForm
	}
	return v, nil
}

// fits says whether a version is short enough as it is written. The parts are measured first, so that nothing long is written in vain.
func fits(v api.Version) bool {
	return len(v.Upstream) <= api.MaxVersion && len(v.Revision) <= api.MaxVersion &&
		len(Print(v)) <= api.MaxVersion
}

// upstreamSigns are those by which Print stays to be read: a colon would end an epoch that is not written, a - would begin a revision that is not there.
func upstreamSigns(v api.Version) string {
	may := signs
	if v.Epoch > 0 {
		may += ":"
	}
	if v.Revision != "" {
		may += "-"
	}
	return may
}

// madeOf says whether a text has digits, letters and these others alone.
func madeOf(s, others string) bool {
	for i := range len(s) {
		if c := s[i]; !digit(c) && !letter(c) && strings.IndexByte(others, c) < 0 {
			return false
		}
	}
	return true
}

// parseEpoch reads an epoch; one of too many digits, or with a nought ahead, is none.
func parseEpoch(s string) (int, bool) {
	if s == "" || len(s) > epochDigits || s[0] == '0' && s != "0" {
		return 0, false
	}
	n := 0
	for i := range len(s) {
		if !digit(s[i]) {
			return 0, false
		}
		n = 10*n + int(s[i]-'0')
	}
	return n, true
}

func digit(c byte) bool { return '0' <= c && c <= '9' }

func letter(c byte) bool { return 'A' <= c && c <= 'Z' || 'a' <= c && c <= 'z' }
