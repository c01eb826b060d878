package cursor

import (
	"iter"

	"kerf/api"
	"kerf/grapheme"
	"kerf/word"
)

// way goes over the places to which steps lead from a bound of letters, one behind the other, till one would lead to no
// other place.
type way func(s string, at int) iter.Seq[int]

// walk is where n steps on lead, or less n steps back.
func walk(s string, at, n int, on, back way) int {
	if n == 0 {
		return at
	}
	places := on
	if n < 0 {
		places = back
	}
steps:
	for place := range places(s, at) {
		at = place
		switch {
		case n > 1:
			n--
		case n < -1:
			n++
		default: // that was the last one
			break steps
		}
	}
	return at
}

// lettersOn and lettersBack look at what lies on their side alone: a text that is cut at a bound of letters keeps those
// that it has, and a long row of flags is not gone through anew at each step.
func lettersOn(s string, at int) iter.Seq[int] {
	return func(yield func(int) bool) {
		for _, to := range grapheme.Each(s[at:]) {
			if !yield(at + to) {
				return
			}
		}
	}
}

func lettersBack(s string, at int) iter.Seq[int] {
	return func(yield func(int) bool) {
		for from := range grapheme.Back(s[:at]) {
			if !yield(from) {
				return
			}
		}
	}
}

// each makes a way of where one step leads, which may be within a letter.
func each(step func(s string, at int) int) way {
	return func(s string, at int) iter.Seq[int] {
		return func(yield func(int) bool) {
			for here := at; ; {
				to := step(s, here)
				if to == here {
					return
				}
				if to = Snap(s, to); to == here {
					to = grapheme.Next(s, here) // else it would stand ahead of that letter for ever
				}
				if !yield(to) {
					return
				}
				here = to
			}
		}
	}
}

// wordEnd is where the first word ends of which the end is above at; the length of s, if there is none.
func wordEnd(s string, at int) int {
	if _, to, ok := wordAround(s, at); ok {
		return to
	}
	if _, to, ok := word.After(s, at); ok {
		return to
	}
	return len(s)
}

// wordBegin is where the last word begins of which the beginning is below at; 0, if there is none.
func wordBegin(s string, at int) int {
	if from, _, ok := wordAround(s, at-1); ok {
		return from
	}
	from, _, _ := word.Before(s, at)
	return from
}

// wordAround is the word in which the byte number at lies, if it lies in one.
func wordAround(s string, at int) (from, to int, ok bool) {
	from, to = word.Around(s, at)
	switch word.Kind(s[from:to]) {
	case api.WordNumber, api.WordLetter:
		return from, to, true
	}
	return 0, 0, false
}
