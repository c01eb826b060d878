package sentence

import "kerf/utf"

// set is a set of classes: a bit for each, so that the rules' own lists, and what they leave out, can be written down.
type set uint32

const (
	all      set = 1<<classCount - 1
	lineEnds set = 1<<classCR | 1<<classLF | 1<<classSep
	blanks   set = 1<<classSp | lineEnds
	marks    set = 1<<classStop | 1<<classTerm
	letters  set = 1<<classLower | 1<<classUpper | 1<<classLetter

	// ahead of these no rule parts, but behind the end of a line
	kept set = marks | blanks | 1<<classOn | 1<<classExtend

	// what the look for a small letter goes past
	passed set = all &^ (letters | marks | lineEnds)
)

func (x set) has(class int) bool { return x>>class&1 == 1 }

// cut is whether api.SentenceRules part s at the edge at, which stands between two runes of it.
func cut(s string, at int) bool {
	ahead, _ := last(s[:at])
	behind := first(s[at:])
	switch {
	case ahead == classCR && behind == classLF:
		return false
	case lineEnds.has(ahead):
		return true
	}
	return !kept.has(behind) && parts(s[:at], s[at:])
}

// parts is whether a sentence ends where ahead does: behind begins with none of those that are kept. Closing marks and
// blanks of one row are gone through at one place behind them alone, and what stands ahead of a small letter behind one
// stop alone: so the time for all places of a text grows as its length does.
func parts(ahead, behind string) bool {
	body := without(ahead, 1<<classExtend)
	near, width := last(body)
	next := first(behind)
	switch {
	case next == classClose && near != classSp:
		return false
	case near == classStop && next == classDigit:
		return false
	case near == classStop && next == classUpper && cased(body[:len(body)-width]):
		return false
	}
	switch mark(body) {
	case classTerm:
		return true
	case classStop:
		return !goesOn(behind)
	}
	return false
}

// cased is whether s ends with a great or a small letter, whatever extends it.
func cased(s string) bool {
	class, _ := last(without(s, 1<<classExtend))
	return class == classUpper || class == classLower
}

// mark is the class of the rune of s behind which closing marks stand at most, and then blanks.
func mark(s string) int {
	s = without(s, 1<<classSp|1<<classExtend)
	s = without(s, 1<<classClose|1<<classExtend)
	class, _ := last(s)
	return class
}

// goesOn is whether a small letter stands in s behind nothing but what is passed.
func goesOn(s string) bool {
	for _, r := range s {
		if class := Class(r); !passed.has(class) {
			return class == classLower
		}
	}
	return false
}

// first is the class of the first rune of s.
func first(s string) int {
	r, _ := utf.Decode(s)
	return Class(r)
}

// last is the class of the last rune of s, and how many bytes it has.
func last(s string) (class, width int) {
	r, width := utf.Last(s)
	return Class(r), width
}

// without is s but for the runes of these classes at its end.
func without(s string, these set) string {
	for s != "" {
		class, width := last(s)
		if !these.has(class) {
			break
		}
		s = s[:len(s)-width]
	}
	return s
}
