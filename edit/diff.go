package edit

import (
	"kerf/api"
	"kerf/utf"
)

// Diff: P23.8.
func Diff(s, t string) api.Change {
	if s == t {
		return api.Change{Len: len(s)}
	}
	p := sameAhead(s, t)
	q := sameBehind(s, t, min(len(s), len(t))-p)
	return api.Change{Len: len(s), Edits: []api.Edit{{From: p, To: len(s) - q, Text: t[p : len(t)-q]}}}
}

// sameAhead is the greatest edge of both texts ahead of which they are the same.
func sameAhead(s, t string) int {
	n := 0
	for n < min(len(s), len(t)) && s[n] == t[n] {
		n++
	}
	for !utf.Is(s, n) || !utf.Is(t, n) {
		n--
	}
	return n
}

// sameBehind is the greatest number, of at most so many, of last bytes that are the same in both texts and begin at an edge of each.
func sameBehind(s, t string, most int) int {
	n := 0
	for n < most && s[len(s)-1-n] == t[len(t)-1-n] {
		n++
	}
	for !utf.Is(s, len(s)-n) || !utf.Is(t, len(t)-n) {
		n--
	}
	return n
}
