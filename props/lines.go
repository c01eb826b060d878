package props

import (
	"cmp"
	"slices"
	"strings"

	"kerf/api"
	"kerf/runes"
	"kerf/utf"
)

const blanks = " \t"

// New: P4.1.
func New(text string) (*Db, api.Errno, int) {
	if len(text) > api.MaxProps {
		return nil, api.ErrLong, 0
	}
	x := reader{db: bare()}
	number := 0
	for line := range strings.SplitSeq(text, "\n") {
		number++
		if e := x.read(line); e != api.OK {
			return nil, e, number
		}
	}
	x.db.parts = whole(x.said)
	return x.db, api.OK, 0
}

// reader reads a text line by line.
type reader struct {
	db   *Db
	said []api.Ranged // what the lines so far have said: rising, and apart
}

// read takes a line in, or tells its first error.
func (x *reader) read(line string) api.Errno {
	line = strings.Trim(line[:find(line, '#')], blanks)
	if line == "" {
		return api.OK
	}
	at := find(line, ';')
	if at == len(line) {
		return api.ErrLine
	}
	name := strings.Trim(line[at+1:], blanks)
	if !Name(name) || name == other {
		return api.ErrName
	}
	set, e, _ := runes.Parse(strings.ReplaceAll(line[:at], "\t", " "))
	if e != api.OK {
		return e
	}
	class := x.db.enter(strings.Clone(name)) // a part of the text would keep the whole of it
	if class == api.MaxClasses {
		return api.ErrMany
	}
	for _, g := range set {
		if !x.say(api.Ranged{Lo: g.Lo, Hi: g.Hi, Class: class}) {
			return api.ErrClash
		}
	}
	return api.OK
}

// find is the place of the first c of the line that stands in no spelling of a rune; its length, if there is none.
func find(line string, c byte) int {
	at := 0
	for at < len(line) && line[at] != c {
		at += step(line[at:])
	}
	return at
}

// step is how many bytes at the beginning of s are one thing: a rune between two ' , whatever it is, or any other byte.
func step(s string) int {
	if s[0] != '\'' {
		return 1
	}
	_, n := utf.Decode(s[1:])
	if end := 1 + n; n > 0 && end < len(s) && s[end] == '\'' {
		return end + 1
	}
	return 1
}

// say lays g among what was said, and is false, if a rune of it has another class there.
func (x *reader) say(g api.Ranged) bool {
	from, _ := slices.BinarySearchFunc(x.said, g.Lo, func(h api.Ranged, r rune) int { return cmp.Compare(h.Hi, r) })
	to := from
	for ; to < len(x.said) && x.said[to].Lo <= g.Hi; to++ {
		h := x.said[to]
		if h.Class != g.Class {
			return false
		}
		g.Lo, g.Hi = min(g.Lo, h.Lo), max(g.Hi, h.Hi)
	}
	x.said = slices.Replace(x.said, from, to, g)
	return true
}

// whole has all numbers from 0 to MaxRune, in as few ranges as can be: those that l, which is rising, has not, are of class 0.
func whole(l []api.Ranged) []api.Ranged {
	var out []api.Ranged
	next := rune(0)
	for _, g := range l {
		if next < g.Lo {
			out = append(out, api.Ranged{Lo: next, Hi: g.Lo - 1})
		}
		next = g.Hi + 1
		if last := len(out) - 1; last >= 0 && out[last].Class == g.Class {
			out[last].Hi = g.Hi
		} else {
			out = append(out, g)
		}
	}
	if next <= api.MaxRune {
		out = append(out, api.Ranged{Lo: next, Hi: api.MaxRune})
	}
	return out
}
