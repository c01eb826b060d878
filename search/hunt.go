package search

import (
	"iter"

	"kerf/api"
	"kerf/fold"
	"kerf/utf"
)

// within stands for the place of a byte that is not the first one of its rune.
const within = -1

// hunt is a text that is looked for, and what is known of another one that was read rune by rune, so that nothing is
// read twice (Knuth, Morris, Pratt).
type hunt struct {
	text  string
	falls []int // by n: how many bytes, less than n, the longest beginning of text has that also ends its first n
	have  int   // how many bytes the longest beginning of text has that ends what was read
	begun []int // of the bytes that were read last, as many as text has: where the rune begins whose first one it is, or within
	bytes int   // how many were read
	at    int   // where what was read ends
}

// hunting looks for a text, which is not empty, from a place on.
func hunting(text string, at int) *hunt {
	x := &hunt{text: text, falls: make([]int, len(text)+1), begun: make([]int, len(text)), at: at}
	for n := 1; n < len(text); n++ {
		x.falls[n+1] = x.grown(x.falls[n], text[n])
	}
	return x
}

// grown is how long a beginning of text ends what was read, where one of n bytes did ahead of the last byte c.
func (x *hunt) grown(n int, c byte) int {
	for n == len(x.text) || x.text[n] != c {
		if n == 0 {
			return 0
		}
		n = x.falls[n]
	}
	return n + 1
}

// read reads a rune that ends at the place to, in the form in which it is compared, and tells where the text that ends
// there begins, if it is the one that is looked for, and begins with a rune.
func (x *hunt) read(form string, to int) (from int, ok bool) {
	begin := x.at
	for i := range len(form) {
		x.have = x.grown(x.have, form[i])
		x.begun[x.bytes%len(x.text)] = begin
		x.bytes++
		begin = within
	}
	x.at = to
	if x.have < len(x.text) {
		return 0, false
	}
	from = x.begun[x.bytes%len(x.text)]
	return from, from != within
}

// matches goes over the matches of t that lie in s from one edge to another, by where they begin.
func matches(s, t string, o api.Find, begin, end int) iter.Seq2[int, int] {
	return func(yield func(int, int) bool) {
		if t == "" {
			return
		}
		text, forms := t, plain
		if o.Fold {
			text, forms = fold.Fold(t), folded
		}
		x := hunting(text, begin)
		froms, tos := boundsOf(s, o, begin), boundsOf(s, o, begin)
	runes:
		for to, form := range forms(s[begin:end]) {
			to += begin
			from, ok := x.read(form, to)
			switch {
			case !ok, !froms.are(from), !tos.are(to):
				continue runes
			case !yield(from, to):
				break runes
			}
		}
	}
}

// plain goes over the runes of a text: where each ends, and its bytes.
func plain(s string) iter.Seq2[int, string] {
	return func(yield func(int, string) bool) {
		for from := 0; from < len(s); {
			_, width := utf.Decode(s[from:])
			to := from + width
			if !yield(to, s[from:to]) {
				return
			}
			from = to
		}
	}
}

// block is how many bytes are folded at once, at most.
const block = 1024

// folded goes over the runes of a text: where each ends, and its folded form.
func folded(s string) iter.Seq2[int, string] {
	return func(yield func(int, string) bool) {
		for from := 0; from < len(s); {
			to := edge(s, from+block)
			text, places := fold.Folded(s[from:to])
			places = append(places, to-from)
			begin := 0
			for i := range len(text) {
				if places[i+1] == places[i] { // of the same rune
					continue
				}
				if !yield(from+places[i+1], text[begin:i+1]) {
					return
				}
				begin = i + 1
			}
			from = to
		}
	}
}
