package utf

import "unicode/utf8"

// Is: P1.5.
func Is(s string, at int) bool {
	if at <= 0 || at >= len(s) {
		return at == 0 || at == len(s)
	}
	return begin(s, at) == at
}

// Back: P1.5.
func Back(s string, at int) int {
	switch {
	case at <= 0:
		return 0
	case at > len(s):
		return len(s)
	}
	return begin(s, at-1)
}

// On: P1.5.
func On(s string, at int) int {
	switch {
	case at < 0:
		return 0
	case at >= len(s):
		return len(s)
	}
	from := begin(s, at)
	_, n := Decode(s[from:])
	return from + n
}

// begin tells where the rune begins to which the byte at the place at belongs; at is from 0 to len(s) - 1.
// A byte that may begin a sequence lies within none, so it is an edge whatever stands ahead of it: to look back over the longest sequence is enough.
func begin(s string, at int) int {
	for from := at; from >= 0 && from > at-utf8.UTFMax; from-- {
		if !utf8.RuneStart(s[from]) {
			continue
		}
		if _, n := Decode(s[from:]); from+n > at {
			return from
		}
		break
	}
	return at
}
