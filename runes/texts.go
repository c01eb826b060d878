package runes

import (
	"iter"
	"strings"

	"kerf/api"
)

// Of: P2.4.
func Of(s string) []api.Range {
	seen := map[rune]struct{}{} // a long text has few runes: only those are sorted
	for _, r := range s {
		seen[r] = struct{}{}
	}
	l := make([]api.Range, 0, len(seen))
	for r := range seen {
		l = append(l, api.Range{Lo: r, Hi: r})
	}
	return Norm(l)
}

// Keep: P2.4.
func Keep(s string, l []api.Range) string {
	var b strings.Builder
	for from, to := range Runs(s, l) {
		b.WriteString(s[from:to])
	}
	return b.String()
}

// Trim: P2.4.
func Trim(s string, l []api.Range) (int, int) {
	begin, end := len(s), len(s)
	for from, to := range Runs(s, Not(l)) {
		begin, end = min(begin, from), to
	}
	return begin, end
}

// Runs: P2.5.
func Runs(s string, l []api.Range) iter.Seq2[int, int] {
	l = Norm(l)
	return func(yield func(int, int) bool) {
		from := -1 // outside of a run
		for at, r := range s {
			_, in := find(l, r)
			switch {
			case in && from < 0:
				from = at
			case !in && from >= 0:
				if !yield(from, at) {
					return
				}
				from = -1
			}
		}
		if from >= 0 {
			yield(from, len(s))
		}
	}
}
