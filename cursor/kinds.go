package cursor

import (
	"kerf/api"
	"kerf/grapheme"
	"kerf/sentence"
	"kerf/utf"
)

// kind is what the motions of a kind do to a cursor; where they go by steps, also the way on, and the way back.
type kind struct {
	do       func(s string, c api.Cursor, n int, o api.Cells) api.Cursor
	on, back way
}

// kinds has them by their numbers in api.
func kinds() map[int]kind {
	return map[int]kind{
		api.ToLetter:   goes(lettersOn, lettersBack),
		api.ToWord:     goes(each(wordEnd), each(wordBegin)),
		api.ToSentence: goes(each(sentence.Next), each(sentence.Prev)),
		api.ToLine:     goes(each(lineOn), each(lineBack)),
		api.ToRow:      {do: Row},
		api.ToHome:     leads(func(s string, at int) int { return lineAt(s, at).from }),
		api.ToEnd:      leads(func(s string, at int) int { return lineAt(s, at).to }),
		api.ToInk:      leads(ink),
		api.ToBegin:    leads(func(string, int) int { return 0 }),
		api.ToLast:     leads(func(s string, _ int) int { return len(s) }),
	}
}

// goes is a kind that goes by these steps.
func goes(on, back way) kind {
	do := func(s string, c api.Cursor, n int, _ api.Cells) api.Cursor {
		return free(walk(s, Snap(s, c.At), n, on, back))
	}
	return kind{do: do, on: on, back: back}
}

// leads is a kind that leads from a bound of letters to one place, however often it is said.
func leads(to func(s string, at int) int) kind {
	return kind{do: func(s string, c api.Cursor, _ int, _ api.Cells) api.Cursor {
		return free(to(s, Snap(s, c.At)))
	}}
}

// ink is where the first letter of a line begins that is not blank; where the line ends, if there is none.
func ink(s string, at int) int {
	l, blank := lineAt(s, at), sentence.Class(' ')
	for from := range grapheme.Each(s[l.from:l.to]) {
		if r, _ := utf.Decode(s[l.from+from:]); sentence.Class(r) != blank {
			return l.from + from
		}
	}
	return l.to
}
