package word_test

import (
	"math"
	"math/rand"
	"slices"
	"strings"
	"testing"

	"kerf/api"
	"kerf/breaker"
	"kerf/word"
)

// What stands here is the chapter spelt out as plainly as can be, on the calls of the layers below: the tests hold the package against it.

// byClass is one rune of each class, by the numbers of the names of api.WordProps: they have one to four bytes.
var byClass = []string{"!", "\r", "\n", "\u2028", "\u0301", "\u200d", "\u00ad", "\U0001f1e6", "\u30ab", "\u05d0", "a", "'", "\"", ".", ":", ",", "7", "_", " ", "\u2603"}

const (
	other = iota
	cr
	lf
	newline
	extend
	zwj
	format
	region
	katakana
	hebrew
	letter
	quote
	double
	midNumLet
	midLetter
	midNum
	digit
	low
	space
	pict
)

// more are others of the classes, and what belongs to no rune, or only to half of one.
var more = []string{"-", "\u4e00", "\U0010ffff", "\ufffd", "\x00", "\t", "\v", "\u0085", "\u200c", "\ufe0f", "\U0001f3fb", "\u2060", "\ufeff", "\U0001f1ff", "\u30fc", "\uff66", "\u05ea", "Z", "\u00e9", "\u03b1", "\u1e00", "\uac00", "\u2018", "\u00b7", ";", "\u066c", "\u0660", "\u203f", "\u2003", "\u3000", "\U0001f600", "\x80", "\xff", "\xc3", "\xe2\x82", "\xf0\x9f\x87", "\xbf\xbf"}

// plain is the breaker that the chapter names.
func plain(t *testing.T) *breaker.Breaker {
	t.Helper()
	b, e, n := breaker.Parse(api.WordProps, api.WordRules)
	if e != api.OK {
		t.Fatalf("Parse: %d, %d", e, n)
	}
	if len(b.Db().Names()) != len(byClass) {
		t.Fatalf("names %q", b.Db().Names())
	}
	for class, s := range byClass {
		if got := b.Db().Of(s); len(got) != 1 || got[0] != class {
			t.Fatalf("%q is of %v, not of %d", s, got, class)
		}
	}
	return b
}

// rows goes over all texts of so many runes, each of one of these classes.
func rows(long int, classes ...int) func(func(string) bool) {
	return func(yield func(string) bool) {
		row := make([]int, long)
		for {
			var s strings.Builder
			for _, i := range row {
				s.WriteString(byClass[classes[i]])
			}
			if !yield(s.String()) {
				return
			}
			i := 0
			for i < long && row[i] == len(classes)-1 {
				row[i] = 0
				i++
			}
			if i == long {
				return
			}
			row[i]++
		}
	}
}

// all are the numbers of all classes.
func all() []int {
	var l []int
	for class := range byClass {
		l = append(l, class)
	}
	return l
}

// someText is at most so many runes and pieces of runes, those of few classes more often than the others.
func someText(r *rand.Rand, most int) string {
	few := byClass
	switch r.Intn(5) {
	case 0:
		few = []string{byClass[region], "\U0001f1ff", byClass[region], byClass[extend], byClass[zwj], byClass[pict]}
	case 1:
		few = []string{"a", "\u05d0", "b", "'", "\"", ".", ":", byClass[extend], byClass[format], byClass[zwj]}
	case 2:
		few = []string{"1", "2", "a", ",", ".", "'", "_", byClass[extend], byClass[format]}
	case 3:
		few = []string{"a", "bc", " ", "  ", "7", "\u30ab", "_", "\r\n", byClass[extend]}
	}
	var s strings.Builder
	for range r.Intn(most + 1) {
		switch r.Intn(8) {
		case 0:
			s.WriteString(more[r.Intn(len(more))])
		case 1:
			s.WriteString(byClass[r.Intn(len(byClass))])
		default:
			s.WriteString(few[r.Intn(len(few))])
		}
	}
	return s.String()
}

// around are all places of s, some below 0, and some above its length.
func around(s string) []int {
	l := []int{math.MinInt, math.MinInt + 1, -9, math.MaxInt - 1, math.MaxInt}
	for at := -2; at <= len(s)+2; at++ {
		l = append(l, at)
	}
	return l
}

// pair is what Each tells.
type pair struct{ from, to int }

func pairs(seq func(func(int, int) bool)) []pair {
	var l []pair
	for from, to := range seq {
		l = append(l, pair{from, to})
	}
	return l
}

// found is what Words tells.
type found struct {
	at   int
	word string
}

func words(seq func(func(int, string) bool)) []found {
	var l []found
	for at, w := range seq {
		l = append(l, found{at, w})
	}
	return l
}

// pieces are those of s.
func pieces(s string) []string {
	var l []string
	for from, to := range word.Each(s) {
		l = append(l, s[from:to])
	}
	return l
}

// held is whether the package tells of s, at every place of it, what b does, and the words that follow from that.
func held(t *testing.T, b *breaker.Breaker, s string) {
	t.Helper()
	if got, want := pairs(word.Each(s)), pairs(b.Each(s)); !slices.Equal(got, want) {
		t.Fatalf("%q: Each %v; want %v", s, got, want)
	}
	for _, at := range around(s) {
		from, to := word.Around(s, at)
		if x, y := b.Around(s, at); from != x || to != y {
			t.Fatalf("%q: Around at %d: %d, %d; want %d, %d", s, at, from, to, x, y)
		}
		if word.Is(s, at) != b.Is(s, at) || word.Next(s, at) != b.Next(s, at) || word.Prev(s, at) != b.Prev(s, at) {
			t.Fatalf("%q: at %d", s, at)
		}
	}
	heldByBounds(t, b, s)
}

// heldByBounds is the same with one call of b alone, its list of bounds.
func heldByBounds(t *testing.T, b *breaker.Breaker, s string) {
	t.Helper()
	bounds := b.Bounds(s)
	if got := word.Bounds(s); !slices.Equal(got, bounds) {
		t.Fatalf("%q: Bounds %v; want %v", s, got, bounds)
	}
	for _, at := range around(s) {
		if got, want := word.Is(s, at), slices.Contains(bounds, at); got != want {
			t.Fatalf("%q: Is at %d: %v; want %v", s, at, got, want)
		}
		next, prev := len(s), 0
		for _, bound := range slices.Backward(bounds) {
			if bound > at {
				next = bound
			}
		}
		for _, bound := range bounds {
			if bound < at {
				prev = bound
			}
		}
		if got := word.Next(s, at); got != next {
			t.Fatalf("%q: Next at %d: %d; want %d", s, at, got, next)
		}
		if got := word.Prev(s, at); got != prev {
			t.Fatalf("%q: Prev at %d: %d; want %d", s, at, got, prev)
		}
		wantFrom, wantTo := 0, 0
		for i := 1; i < len(bounds); i++ {
			if bounds[i-1] <= at && at < bounds[i] {
				wantFrom, wantTo = bounds[i-1], bounds[i]
			}
		}
		if from, to := word.Around(s, at); from != wantFrom || to != wantTo {
			t.Fatalf("%q: Around at %d: %d, %d; want %d, %d", s, at, from, to, wantFrom, wantTo)
		}
	}
	heldWords(t, b, s, bounds)
}

// heldWords is whether the package tells the words of s that stand between these bounds.
func heldWords(t *testing.T, b *breaker.Breaker, s string, bounds []int) {
	t.Helper()
	var want []found
	for i := 1; i < len(bounds); i++ {
		if kind := plainKind(b, s[bounds[i-1]:bounds[i]]); kind == api.WordNumber || kind == api.WordLetter {
			want = append(want, found{bounds[i-1], s[bounds[i-1]:bounds[i]]})
		}
	}
	if got := words(word.Words(s)); !slices.Equal(got, want) {
		t.Fatalf("%q: Words %v; want %v", s, got, want)
	}
	if got := word.Count(s); got != len(want) {
		t.Fatalf("%q: Count %d; want %d", s, got, len(want))
	}
	for _, at := range around(s) {
		var after, before pair
		isAfter, isBefore := false, false
		for _, w := range want {
			from, to := w.at, w.at+len(w.word)
			if from >= at && !isAfter {
				after, isAfter = pair{from, to}, true
			}
			if to <= at {
				before, isBefore = pair{from, to}, true
			}
		}
		if from, to, ok := word.After(s, at); (pair{from, to}) != after || ok != isAfter {
			t.Fatalf("%q: After at %d: %d, %d, %v; want %v, %v", s, at, from, to, ok, after, isAfter)
		}
		if from, to, ok := word.Before(s, at); (pair{from, to}) != before || ok != isBefore {
			t.Fatalf("%q: Before at %d: %d, %d, %v; want %v, %v", s, at, from, to, ok, before, isBefore)
		}
	}
}

// plainKind is P12.3, word for word.
func plainKind(b *breaker.Breaker, s string) int {
	classes := b.Db().Of(s)
	one := func(of ...int) bool {
		return slices.ContainsFunc(classes, func(class int) bool { return slices.Contains(of, class) })
	}
	strange := slices.ContainsFunc(classes, func(class int) bool { return !slices.Contains([]int{space, extend, format, zwj}, class) })
	switch {
	case one(letter, hebrew, katakana):
		return api.WordLetter
	case one(digit):
		return api.WordNumber
	case one(newline, cr, lf):
		return api.WordBreak
	case one(space) && !strange:
		return api.WordSpace
	}
	return api.WordOther
}

// edges are the places where the runes of s begin, and its length.
func edges(s string) []int {
	var l []int
	for at := range s {
		l = append(l, at)
	}
	return append(l, len(s))
}
