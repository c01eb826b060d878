package grapheme_test

import (
	"math"
	"math/rand"
	"slices"
	"strings"
	"testing"

	"kerf/api"
	"kerf/breaker"
	"kerf/grapheme"
	"kerf/utf"
)

// What stands here is the chapter spelt out as plainly as can be, on the calls of the layers below: the tests hold the package against it.

// byClass is one rune of each class, by the numbers of the names of api.GraphemeProps: they have one to four bytes.
var byClass = []string{"e", "\r", "\n", "\u00ad", "\u0301", "\u200d", "\u0903", "\u0600", "\u1100", "\u1161", "\u11a8", "\uac01", "\U0001f468", "\U0001f1e6"}

const (
	other = iota
	cr
	lf
	control
	extend
	zwj
	mark
	prepend
	lead
	vowel
	tail
	syllable
	pict
	flag
)

// more are others of some classes, and what belongs to no rune, or only to half of one.
var more = []string{"x", "\u00e9", "\u4e00", "\U0010ffff", "\ufffd", "\x00", "\t", "\u2028", "\ufeff", "\u200c", "\ufe0f", "\U0001f3fb", "\U000e0020", "\u0e33", "\U000110bd", "\u00a9", "\u2190", "\U0001f1ff", "\x80", "\xff", "\xc3", "\xe2\x82", "\xf0\x9f\x87", "\xbf\xbf"}

// plain is the breaker that the chapter names.
func plain(t *testing.T) *breaker.Breaker {
	t.Helper()
	b, e, n := breaker.Parse(api.GraphemeProps, api.GraphemeRules)
	if e != api.OK {
		t.Fatalf("Parse: %d, %d", e, n)
	}
	if len(b.Db().Names()) != len(byClass) {
		t.Fatalf("names %q", b.Db().Names())
	}
	for class, s := range byClass {
		if got := b.Db().Of(s); len(got) != 1 || got[0] != class {
			t.Fatalf("%q is of %v, not of %d", s, got, class)
		}
	}
	return b
}

// of is a text of these classes.
func of(classes ...int) string {
	var s strings.Builder
	for _, class := range classes {
		s.WriteString(byClass[class])
	}
	return s.String()
}

// rows goes over all texts of so many runes, each of one of these classes.
func rows(long int, classes ...int) func(func(string) bool) {
	return func(yield func(string) bool) {
		row := make([]int, long)
		for {
			var s strings.Builder
			for _, i := range row {
				s.WriteString(byClass[classes[i]])
			}
			if !yield(s.String()) {
				return
			}
			i := 0
			for i < long && row[i] == len(classes)-1 {
				row[i] = 0
				i++
			}
			if i == long {
				return
			}
			row[i]++
		}
	}
}

// all are the numbers of all classes.
func all() []int {
	var l []int
	for class := range byClass {
		l = append(l, class)
	}
	return l
}

// someText is at most so many runes and pieces of runes, those of few classes more often than the others.
func someText(r *rand.Rand, most int) string {
	few := byClass
	switch r.Intn(4) {
	case 0:
		few = []string{byClass[flag], "\U0001f1ff", byClass[flag], byClass[extend], byClass[prepend], "x"}
	case 1:
		few = []string{byClass[pict], "\u2190", byClass[zwj], byClass[extend], "\ufe0f", byClass[mark]}
	case 2:
		few = []string{byClass[lead], byClass[vowel], byClass[tail], byClass[syllable], byClass[extend]}
	}
	var s strings.Builder
	for range r.Intn(most + 1) {
		switch r.Intn(8) {
		case 0:
			s.WriteString(more[r.Intn(len(more))])
		case 1:
			s.WriteString(byClass[r.Intn(len(byClass))])
		default:
			s.WriteString(few[r.Intn(len(few))])
		}
	}
	return s.String()
}

// around are all places of s, some below 0, and some above its length.
func around(s string) []int {
	l := []int{math.MinInt, math.MinInt + 1, -9, math.MaxInt - 1, math.MaxInt}
	for at := -2; at <= len(s)+2; at++ {
		l = append(l, at)
	}
	return l
}

// pair is what Each and Back tell.
type pair struct{ from, to int }

func pairs(seq func(func(int, int) bool)) []pair {
	var l []pair
	for from, to := range seq {
		l = append(l, pair{from, to})
	}
	return l
}

// held is whether the package tells of s, at every place of it, what b does.
func held(t *testing.T, b *breaker.Breaker, s string) {
	t.Helper()
	if got, want := grapheme.Bounds(s), b.Bounds(s); !slices.Equal(got, want) {
		t.Fatalf("%q: Bounds %v; want %v", s, got, want)
	}
	if got, want := pairs(grapheme.Each(s)), pairs(b.Each(s)); !slices.Equal(got, want) {
		t.Fatalf("%q: Each %v; want %v", s, got, want)
	}
	if got, want := pairs(grapheme.Back(s)), pairs(b.Back(s)); !slices.Equal(got, want) {
		t.Fatalf("%q: Back %v; want %v", s, got, want)
	}
	if got, want := grapheme.Count(s), b.Count(s); got != want {
		t.Fatalf("%q: Count %d; want %d", s, got, want)
	}
	for _, at := range around(s) {
		if got, want := grapheme.Is(s, at), b.Is(s, at); got != want {
			t.Fatalf("%q: Is at %d: %v; want %v", s, at, got, want)
		}
		if got, want := grapheme.Next(s, at), b.Next(s, at); got != want {
			t.Fatalf("%q: Next at %d: %d; want %d", s, at, got, want)
		}
		if got, want := grapheme.Prev(s, at), b.Prev(s, at); got != want {
			t.Fatalf("%q: Prev at %d: %d; want %d", s, at, got, want)
		}
		from, to := grapheme.Around(s, at)
		if x, y := b.Around(s, at); from != x || to != y {
			t.Fatalf("%q: Around at %d: %d, %d; want %d, %d", s, at, from, to, x, y)
		}
	}
}

// plainPlace is where the grapheme number n begins, by the bounds that b tells.
func plainPlace(b *breaker.Breaker, s string, n int) int {
	bounds := b.Bounds(s)
	switch {
	case n < 0:
		return 0
	case n >= len(bounds)-1:
		return len(s)
	}
	return bounds[n]
}

// plainTurn is the graphemes that b tells the other way round.
func plainTurn(b *breaker.Breaker, s string) string {
	turned := ""
	for from, to := range b.Each(s) {
		turned = s[from:to] + turned
	}
	return turned
}

// edges are the places where the runes of s begin, and its length.
func edges(s string) []int {
	var l []int
	for at := range s {
		l = append(l, at)
	}
	return append(l, len(s))
}

// apart is whether the runes of these texts together are theirs by themselves.
func apart(texts ...string) bool {
	var l []int
	at := 0
	for _, s := range texts {
		for _, edge := range edges(s)[:utf.Count(s)] {
			l = append(l, at+edge)
		}
		at += len(s)
	}
	return slices.Equal(append(l, at), edges(strings.Join(texts, "")))
}
