package search_test

import (
	"math"
	"math/rand"
	"slices"
	"strings"
	"testing"

	"kerf/api"
	"kerf/fold"
	"kerf/grapheme"
	"kerf/pattern"
	"kerf/props"
	"kerf/utf"
	"kerf/word"
)

// What stands here is the chapter spelt out as plainly as can be, on the calls of the layers below: the tests hold the package against it.

// hows are all ways in which a text is looked for.
var hows = []api.Find{{}, {Fold: true}, {Letters: true}, {Words: true}, {Fold: true, Letters: true}, {Fold: true, Words: true}, {Letters: true, Words: true}, {Fold: true, Letters: true, Words: true}}

// parts are letters that fold to one and to several, runes that make letters or words with what stands beside them, blanks, and what belongs to no rune, or only to half of one.
var parts = []string{"a", "A", "s", "S", "\u00df", "\u017f", "\u1e9e", "f", "i", "\ufb01", "\ufb00", "\u00e9", "\u00c9", "1", "'", ".", " ", "-", "\n", "\r", "\u0301", "\u200d", "\u0903", "\u0600", "\U0001f1e6", "\U0001f600", "\u20ac", "\u03a3", "\u03c2", "\u03c3", "\u30ab", "\u05d0", "\"", "\xff", "\xe2\x82", "\xe2", "\x82", "\xac", "\xf0\x9f\x98", "\xc3", "\xed\xa0\x80", "\ufffd", "\x00"}

// plainText is a text of which all is known that places may be.
type plainText struct {
	s                     string
	edges, letters, words []int
}

func plainOf(s string) plainText {
	p := plainText{s: s, letters: grapheme.Bounds(s), words: word.Bounds(s)}
	for at := range utf.Each(s) {
		p.edges = append(p.edges, at)
	}
	p.edges = append(p.edges, len(s))
	return p
}

// folds are folded forms that were asked for.
var folds = map[string]string{}

// foldOf is the folded form of a text: two are Equal just if it is the same (P19.5).
func foldOf(s string) string {
	f, ok := folds[s]
	if !ok {
		f = fold.Fold(s)
		folds[s] = f
	}
	return f
}

// is is P22.1.
func (p plainText) is(t string, o api.Find, from, to int) bool {
	switch {
	case t == "", !slices.Contains(p.edges, from), !slices.Contains(p.edges, to), from > to:
		return false
	case o.Letters && (!slices.Contains(p.letters, from) || !slices.Contains(p.letters, to)):
		return false
	case o.Words && (!slices.Contains(p.words, from) || !slices.Contains(p.words, to)):
		return false
	case o.Fold:
		return foldOf(p.s[from:to]) == foldOf(t)
	}
	return p.s[from:to] == t
}

// every is that of P22.2.
func (p plainText) every(t string, o api.Find) []api.Match {
	var l []api.Match
	for _, from := range p.edges {
		for _, to := range p.edges {
			if to-from <= 4*len(t) && p.is(t, o, from, to) {
				l = append(l, api.Match{From: from, To: to})
			}
		}
	}
	return l
}

// taken are All of a list of matches.
func taken(every []api.Match) []api.Match {
	var l []api.Match
	for _, m := range every {
		if len(l) == 0 || m.From >= l[len(l)-1].To {
			l = append(l, m)
		}
	}
	return l
}

// next is that of P22.3, and prev is likewise.
func next(every []api.Match, at int) (api.Match, bool) {
	for _, m := range every {
		if m.From >= at {
			return m, true
		}
	}
	return api.Match{}, false
}

func prev(every []api.Match, at int) (api.Match, bool) {
	for _, m := range slices.Backward(every) {
		if m.To <= at {
			return m, true
		}
	}
	return api.Match{}, false
}

// replace is that of P22.3.
func replace(s, u string, all []api.Match) string {
	for _, m := range slices.Backward(all) {
		s = s[:m.From] + u + s[m.To:]
	}
	return s
}

// longest is that of P22.4, and classes is likewise.
func longest(d *props.Db, p api.Pattern, s string, at int) (int, bool) {
	edges := plainOf(s).edges
	if d == nil || !slices.Contains(edges, at) {
		return 0, false
	}
	for _, k := range slices.Backward(edges) {
		if k > at && pattern.Matches(p, d.Of(s[at:k])) {
			return k, true
		}
	}
	return 0, false
}

func classes(d *props.Db, p api.Pattern, s string) []api.Match {
	var l []api.Match
	from := 0
	for _, edge := range plainOf(s).edges {
		if edge < from {
			continue
		}
		if to, ok := longest(d, p, s, edge); ok {
			l = append(l, api.Match{From: edge, To: to})
			from = to
		}
	}
	return l
}

// held is how many bytes chapter 1's Scanner holds of a text.
func held(s string) int {
	x := utf.NewScanner()
	x.Feed([]byte(s))
	return x.Held()
}

// sure are the places of the matches in what was written that stay whatever comes.
func sure(w, t string) []int {
	var l []int
	for _, m := range plainOf(w).every(t, api.Find{}) {
		if m.To <= len(w)-held(w) {
			l = append(l, m.From)
		}
	}
	return l
}

// around are the places from ahead of a text to past it, and the farthest there are.
func around(s string) []int {
	l := []int{math.MinInt, math.MinInt + 1, math.MinInt32}
	for at := -2; at <= len(s)+2; at++ {
		l = append(l, at)
	}
	return append(l, math.MaxInt32, math.MaxInt-1, math.MaxInt)
}

// someText is at most so many of the parts, those of some few more often than the others.
func someText(r *rand.Rand, most int) string {
	few := parts
	switch r.Intn(6) {
	case 0:
		few = []string{"a", "A", "a"}
	case 1:
		few = []string{"s", "S", "\u00df", "\u1e9e", "\u017f", "f", "i", "\ufb00", "\ufb01"}
	case 2:
		few = []string{"a", "\u0301", "\U0001f1e6", "\u200d", "\r", "\n", "\u0600"}
	case 3:
		few = []string{"\xe2", "\xe2\x82", "\x82", "\xac", "\u20ac", "a"}
	case 4:
		few = []string{"a", "s", "1", " ", "'", ".", "\u30ab"}
	}
	var s strings.Builder
	for range r.Intn(most + 1) {
		if r.Intn(5) == 0 {
			s.WriteString(parts[r.Intn(len(parts))])
		} else {
			s.WriteString(few[r.Intn(len(few))])
		}
	}
	return s.String()
}

// someNeedle is a text to be looked for in s: mostly what stands in it, as it is or in other letters.
func someNeedle(r *rand.Rand, s string) string {
	if r.Intn(8) == 0 {
		return someText(r, 3)
	}
	from := r.Intn(len(s) + 1)
	to := min(len(s), from+r.Intn(9))
	if r.Intn(4) > 0 {
		from, to = utf.Back(s, from+1), utf.Back(s, to+1)
	}
	t := s[min(from, to):max(from, to)]
	switch r.Intn(6) {
	case 0:
		return fold.Fold(t)
	case 1:
		return fold.Great(t)
	case 2:
		return fold.Turned(t)
	}
	return t
}

// needles are what may be looked for in s: all that stands in it, from any byte to any other, in its own letters and folded, and what does not.
func needles(s string) []string {
	l := []string{"", "zz", s + "a"}
	for from := range len(s) {
		for to := from + 1; to <= len(s); to++ {
			l = append(l, s[from:to], fold.Great(s[from:to]), fold.Fold(s[from:to]))
		}
	}
	slices.Sort(l)
	return slices.Compact(l)
}

// rows goes over all texts of at most so many of these parts.
func rows(long int, of ...string) func(func(string) bool) {
	return func(yield func(string) bool) {
		var lay func(s string, left int) bool
		lay = func(s string, left int) bool {
			if !yield(s) {
				return false
			}
			for _, part := range of {
				if left > 0 && !lay(s+part, left-1) {
					return false
				}
			}
			return true
		}
		lay("", long)
	}
}

// dbOf is the database of a property text.
func dbOf(t *testing.T, text string) *props.Db {
	t.Helper()
	d, e, line := props.New(text)
	if e != api.OK {
		t.Fatal(e, line)
	}
	return d
}

// patternOf is the pattern of a text, over the classes of d.
func patternOf(t *testing.T, d *props.Db, text string) api.Pattern {
	t.Helper()
	p, e, at := pattern.Parse(text, d.Names())
	if e != api.OK {
		t.Fatal(text, e, at)
	}
	return p
}
