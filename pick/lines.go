package pick

import (
	"cmp"
	"iter"
	"slices"

	"kerf/api"
	"kerf/grapheme"
	"kerf/places"
	"kerf/sentence"
	"kerf/width"
	"kerf/word"
)

// Grow: P24.4.
func Grow(s string, p api.Picks, kind int) api.Picks {
	p = Norm(s, p)
	bounds, ok := boundsOf(s, kind)
	if !ok {
		return p
	}
	for i, pick := range p.L {
		x := spanOf(pick)
		if s != "" {
			x = x.grown(bounds)
		}
		p.L[i] = x.pick()
	}
	return Norm(s, p)
}

// boundsOf is the bounds of a kind, of a text that is not empty from 0 to its length, and whether there is such a kind.
func boundsOf(s string, kind int) ([]int, bool) {
	switch kind {
	case api.ToLetter:
		return grapheme.Bounds(s), true
	case api.ToWord:
		return word.Bounds(s), true
	case api.ToSentence:
		return sentence.Bounds(s), true
	case api.ToLine:
		var bounds []int
		for from := range linesOf(s) {
			bounds = append(bounds, from)
		}
		return append(bounds, len(s)), true
	}
	return nil, false
}

// grown is a span that goes from bound to bound, around its first byte and its last one. For an empty one both are the byte
// behind it, or, at the end, the one ahead.
func (x span) grown(bounds []int) span {
	end := bounds[len(bounds)-1]
	first := min(x.from, end-1)
	last := max(first, x.to-1)
	return span{bounds[above(bounds, first)-1], bounds[above(bounds, last)], x.back}
}

// above is the number of the least of the bounds above a place.
func above(bounds []int, at int) int {
	i, _ := slices.BinarySearch(bounds, at+1)
	return i
}

// linesOf goes over the lines of s: where each begins, and where it ends without what ends it.
func linesOf(s string) iter.Seq2[int, int] {
	return func(yield func(int, int) bool) {
		from := 0
		for _, text := range places.New(s).Each() {
			to := from + len(text)
			if !yield(from, to) {
				return
			}
			from = grapheme.Next(s, to) // what ends a line is a letter
		}
	}
}

// Lines: P24.5.
func Lines(s string, p api.Picks) api.Picks {
	p = Norm(s, p)
	var lines []span
	for from, to := range linesOf(s) {
		lines = append(lines, span{from: from, to: to})
	}
	var q api.Picks
	for i, pick := range p.L {
		if i == p.Main {
			q.Main = len(q.L)
		}
		x := spanOf(pick)
		first, _ := slices.BinarySearchFunc(lines, x.from, func(l span, at int) int { return cmp.Compare(l.to, at) })
		for _, l := range lines[first:] {
			if l.from >= x.to && l.from > x.from {
				break
			}
			q.L = append(q.L, span{max(x.from, l.from), min(x.to, l.to), x.back}.pick())
		}
	}
	return Norm(s, q)
}

// Block: P24.6.
func Block(s string, a, b api.Spot, o api.Cells) api.Picks {
	var p api.Picks
	if width.Check(o) != api.OK {
		return p
	}
	row := 0
	for from, to := range linesOf(s) {
		if row > max(a.Row, b.Row) {
			break
		}
		if row == b.Row {
			p.Main = len(p.L)
		}
		if row >= min(a.Row, b.Row) {
			hit := func(column int) int { return from + width.Hit(s[from:to], column, o) }
			p.L = append(p.L, api.Pick{Anchor: hit(a.Col), Head: hit(b.Col), Goal: -1})
		}
		row++
	}
	return Norm(s, p)
}
