package cursor

import (
	"strings"

	"kerf/grapheme"
)

// lineEnds are the runes behind which a line ends; a CR and an LF behind it are one end.
const lineEnds = "\n\v\f\r\u0085\u2028\u2029"

// line is where a line begins, where it ends without what ends it, and where with that.
type line struct{ from, to, end int }

// lineAt is the line of s in which the bound of letters at lies. It is what an index of places tells of s, which is made
// of the whole: here the line alone is looked through.
func lineAt(s string, at int) line {
	l := line{from: 0, to: len(s)}
	if i := strings.LastIndexAny(s[:at], lineEnds); i >= 0 {
		l.from = grapheme.Next(s, i) // what ends a line is a letter
	}
	if i := strings.IndexAny(s[at:], lineEnds); i >= 0 {
		l.to = at + i
	}
	l.end = grapheme.Next(s, l.to)
	return l
}

// away is the line n lines on, or less n lines back; the last or the first one, if there are fewer.
func (l line) away(s string, n int) line {
lines:
	for {
		switch {
		case n > 0 && l.end > l.to:
			l, n = lineAt(s, l.end), n-1
		case n < 0 && l.from > 0:
			l, n = lineAt(s, grapheme.Prev(s, l.from)), n+1
		default:
			break lines
		}
	}
	return l
}

// lineOn is where the next line begins; at, if there is none.
func lineOn(s string, at int) int {
	if l := lineAt(s, at); l.end > l.to {
		return l.end
	}
	return at
}

// lineBack is where the line begins, if that is below at, else the line ahead; at, if there is none.
func lineBack(s string, at int) int {
	l := lineAt(s, at)
	if l.from == at {
		l = l.away(s, -1)
	}
	return l.from
}
