package places

import (
	"iter"
	"sort"

	"kerf/grapheme"
	"kerf/utf"
)

// every is how many bytes lie at least between two places that are kept.
const every = 128

// spot is the place at which the thing number n begins.
type spot struct{ n, at int }

// scale knows where the things of one count begin. It keeps the first of them that begins so many bytes behind the one
// that was kept ahead of it: all that are not kept begin near one that is, however long one thing or another may be.
type scale struct {
	text string
	each func(string) iter.Seq[int] // goes over the places where they begin in a text
	long int                        // how many there are
	kept []spot
}

func newScale(text string, each func(string) iter.Seq[int]) scale {
	c := scale{text: text, each: each}
	next := 0
	for at := range each(text) {
		// The second unit of a rune is none to count from: a text that is cut there has other runes.
		if at >= next && utf.Is(text, at) {
			c.kept = append(c.kept, spot{c.long, at})
			next = at + every
		}
		c.long++
	}
	return c
}

// below is how many things begin at a byte below at.
func (c scale) below(at int) int {
	i := sort.Search(len(c.kept), func(i int) bool { return c.kept[i].at >= at })
	if i == 0 {
		return 0
	}
	return c.reach(c.kept[i-1], c.long, at).n
}

// place is where the thing number n begins; 0, if n is below 0; the length of the text, if there are no more than n.
func (c scale) place(n int) int {
	switch {
	case n < 0:
		return 0
	case n >= c.long:
		return len(c.text)
	}
	i := sort.Search(len(c.kept), func(i int) bool { return c.kept[i].n > n })
	return c.reach(c.kept[i-1], n, len(c.text)).at
}

// reach counts from a kept spot on, up to the thing that begins at the byte at or behind it, or is the number n. What is
// not kept begins ahead of the edge end; and what begins ahead of an edge hangs on nothing behind that: no rule of letters
// looks at more than one rune behind a place, and a CR ends a line with its LF or without it.
func (c scale) reach(now spot, n, at int) spot {
	base := now.at
	end := utf.On(c.text, base+every-1)
reached:
	for place := range c.each(c.text[base:end]) {
		now.at = base + place
		switch {
		case now.at >= at, now.n == n:
			break reached
		}
		now.n++
	}
	return now
}

// unitsOf goes over the places where the units of s begin.
func unitsOf(s string) iter.Seq[int] {
	return func(yield func(int) bool) {
		for at, r := range s {
			if !yield(at) || r > 0xffff && !yield(at+1) {
				return
			}
		}
	}
}

// runesOf goes over the places where the runes of s begin.
func runesOf(s string) iter.Seq[int] {
	return func(yield func(int) bool) {
		for at := range s {
			if !yield(at) {
				return
			}
		}
	}
}

// lettersOf goes over the places where the letters of s begin.
func lettersOf(s string) iter.Seq[int] {
	return func(yield func(int) bool) {
		for at := range grapheme.Each(s) {
			if !yield(at) {
				return
			}
		}
	}
}
