package search

import (
	"kerf/api"
	"kerf/grapheme"
	"kerf/word"
)

// bounds are those of a text of one kind, gone over on from one of them. What stands ahead of a bound has no part in those
// behind it: so it is left off, and a long row of flags or regions is not counted anew at each of them.
type bounds struct {
	s    string
	at   int // the one that was come to
	next func(s string, at int) int
}

// is is whether a place is one of them. Of the places that are asked for, one behind the other, none is below one ahead of it.
func (x *bounds) is(at int) bool {
	for x.at < at {
		x.at += x.next(x.s[x.at:], 0)
	}
	return x.at == at
}

// cuts are the bounds that a place must be, all of them.
type cuts []*bounds

// boundsOf are those of s by what must stay whole, for places from an edge on: they begin at the last bound that is not above it.
func boundsOf(s string, o api.Find, edge int) cuts {
	var list cuts
	if o.Letters {
		list = append(list, &bounds{s: s, at: grapheme.Prev(s, edge+1), next: grapheme.Next})
	}
	if o.Words {
		list = append(list, &bounds{s: s, at: word.Prev(s, edge+1), next: word.Next})
	}
	return list
}

func (x cuts) are(at int) bool {
	for _, b := range x {
		if !b.is(at) {
			return false
		}
	}
	return true
}
