package line_test

import (
	"math"
	"math/rand"
	"slices"
	"strings"
	"testing"

	"kerf/api"
	"kerf/breaker"
	"kerf/line"
)

// What stands here is the chapter spelt out as plainly as can be, on the calls of the layers below: the tests hold the package against it.

// byClass is one rune of each class, by the numbers of the names of api.LineProps: they have one to four bytes.
var byClass = []string{"a", "\u2028", "\r", "\n", " ", "\u200b", "\u2060", "\u00a0", "\u0301", "(", ")", "}", "\"", "!", ",", "/", "-", "\u00ad", "\u2014", "\u2026", "7", "%", "$", "\u4e00", "\u3005", "\U0001f1e6"}

const (
	other = iota
	bk
	cr
	lf
	sp
	zw
	wj
	gl
	cm
	op
	cp
	cl
	qu
	ex
	is
	sy
	hy
	ba
	dash
	in
	nu
	po
	pr
	id
	ns
	ri
)

// more are others of the classes, and what belongs to no rune, or only to half of one.
var more = []string{"b", "Z", "\u00e9", "\u05d0", "\ufffd", "\x00", "\U0010ffff", "\v", "\f", "\u0085", "\u2029", "\ufeff", "\u2007", "\u202f", "\u0591", "\u200d", "\u3099", "\ufe0f", "\U0001f3fb", "[", "{", "\u00bf", "\u300c", "]", "\u3002", "\u300d", "'", "\u00ab", "\u2019", "?", ".", ":", ";", "\t", "\u2010", "\u2013", "0", "\u0660", "\u00b0", "\u2030", "+", "\\", "\u20ac", "\u3042", "\u30ab", "\U0001f600", "\u30fc", "\u309b", "\U0001f1ff", "\r\n", "\x80", "\xff", "\xc3", "\xe2\x82", "\xf0\x9f\x87", "\xbf\xbf"}

// faults are bytes that belong to no rune.
var faults = []string{"\x80", "\xff", "\xc3", "\xe2\x80", "\xf0\x9f\x87", "\xed\xa0\x80"}

// plain is the breaker that the chapter names.
func plain(t *testing.T) *breaker.Breaker {
	t.Helper()
	b, e, n := breaker.Parse(api.LineProps, api.LineRules)
	if e != api.OK {
		t.Fatalf("Parse: %d, %d", e, n)
	}
	if len(b.Db().Names()) != len(byClass) {
		t.Fatalf("names %q", b.Db().Names())
	}
	for class, s := range byClass {
		if got := b.Db().Of(s); len(got) != 1 || got[0] != class {
			t.Fatalf("%q is of %v, not of %d", s, got, class)
		}
	}
	return b
}

// rows goes over all texts of so many runes, each of one of these classes.
func rows(long int, classes ...int) func(func(string) bool) {
	return func(yield func(string) bool) {
		row := make([]int, long)
		for {
			var s strings.Builder
			for _, i := range row {
				s.WriteString(byClass[classes[i]])
			}
			if !yield(s.String()) {
				return
			}
			i := 0
			for i < long && row[i] == len(classes)-1 {
				row[i] = 0
				i++
			}
			if i == long {
				return
			}
			row[i]++
		}
	}
}

// all are the numbers of all classes.
func all() []int {
	var l []int
	for class := range byClass {
		l = append(l, class)
	}
	return l
}

// someText is at most so many runes and pieces of runes, those of few classes more often than the others.
func someText(r *rand.Rand, most int) string {
	few := byClass
	switch r.Intn(6) {
	case 0:
		few = []string{"a", "7", " ", "(", ")", ",", "-", byClass[cm], byClass[gl], byClass[wj]}
	case 1:
		few = []string{"1", ".", "/", ")", "}", "%", "$", "(", "-", byClass[cm]}
	case 2:
		few = []string{"It", " is", ". ", "\u201c", "\u201d ", " (", ") ", "$3.50", "\u2014", "\u2026", "\n", "\r\n"}
	case 3:
		few = []string{byClass[ri], byClass[ri], byClass[ri], byClass[cm], byClass[sp], byClass[zw]}
	case 4:
		few = []string{" ", " ", byClass[zw], byClass[cm], byClass[gl], byClass[ba], byClass[hy], "\r", "\n", "\u0085"}
	}
	var s strings.Builder
	for range r.Intn(most + 1) {
		switch r.Intn(8) {
		case 0:
			s.WriteString(more[r.Intn(len(more))])
		case 1:
			s.WriteString(byClass[r.Intn(len(byClass))])
		default:
			s.WriteString(few[r.Intn(len(few))])
		}
	}
	return s.String()
}

// around are all places of s, some below 0, and some above its length.
func around(s string) []int {
	l := []int{math.MinInt, math.MinInt + 1, -9, math.MaxInt - 1, math.MaxInt}
	for at := -2; at <= len(s)+2; at++ {
		l = append(l, at)
	}
	return l
}

// edges are the places where the runes of s begin, and its length.
func edges(s string) []int {
	var l []int
	for at := range s {
		l = append(l, at)
	}
	return append(l, len(s))
}

// told are the chances that Each tells.
func told(s string) []api.Chance {
	var l []api.Chance
	for at, must := range line.Each(s) {
		l = append(l, api.Chance{At: at, Must: must})
	}
	return l
}

// pair is what Lines tells.
type pair struct{ from, to int }

func lines(s string) []pair {
	var l []pair
	for from, to := range line.Lines(s) {
		l = append(l, pair{from, to})
	}
	return l
}

// plainChances is P14.1, word for word, by the bounds that b tells.
func plainChances(b *breaker.Breaker, s string) []api.Chance {
	var l []api.Chance
	places, classes := edges(s), b.Db().Of(s)
	for _, at := range b.Bounds(s) {
		if at == 0 {
			continue
		}
		ahead := classes[slices.Index(places, at)-1]
		l = append(l, api.Chance{At: at, Must: at == len(s) || ahead == bk || ahead == lf || ahead == cr})
	}
	return l
}

// plainLines is P14.3 by the chances.
func plainLines(chances []api.Chance) []pair {
	var l []pair
	from := 0
	for _, x := range chances {
		if x.Must {
			l = append(l, pair{from, x.At})
			from = x.At
		}
	}
	return l
}

// plainTrail is P14.4, from the front.
func plainTrail(b *breaker.Breaker, s string) int {
	end, places := 0, edges(s)
	for k, class := range b.Db().Of(s) {
		if !slices.Contains([]int{sp, bk, cr, lf, zw}, class) {
			end = places[k+1]
		}
	}
	return end
}

// held is whether the package tells of s, by every call and at every place of it, what the chapter does.
func held(t *testing.T, b *breaker.Breaker, s string) {
	t.Helper()
	chances := plainChances(b, s)
	if got := line.Chances(s); !slices.Equal(got, chances) {
		t.Fatalf("%q: Chances %v; want %v", s, got, chances)
	}
	if got := told(s); !slices.Equal(got, chances) {
		t.Fatalf("%q: Each %v; want %v", s, got, chances)
	}
	if got, want := lines(s), plainLines(chances); !slices.Equal(got, want) {
		t.Fatalf("%q: Lines %v; want %v", s, got, want)
	}
	if got, want := line.Trail(s), plainTrail(b, s); got != want {
		t.Fatalf("%q: Trail %d; want %d", s, got, want)
	}
	for _, at := range around(s) {
		heldAt(t, chances, s, at)
	}
}

// heldAt is P14.2 at one place, by the chances of s.
func heldAt(t *testing.T, chances []api.Chance, s string, at int) {
	t.Helper()
	kind := api.LineNot
	var next, prev api.Chance
	isNext, isPrev := false, false
	for _, x := range chances {
		switch {
		case x.At < at:
			prev, isPrev = x, true
		case x.At > at && !isNext:
			next, isNext = x, true
		case x.At == at && x.Must:
			kind = api.LineMust
		case x.At == at:
			kind = api.LineMay
		}
	}
	if got := line.Kind(s, at); got != kind {
		t.Fatalf("%q: Kind at %d: %d; want %d", s, at, got, kind)
	}
	if got, ok := line.Next(s, at); got != next || ok != isNext {
		t.Fatalf("%q: Next at %d: %v, %v; want %v, %v", s, at, got, ok, next, isNext)
	}
	if got, ok := line.Prev(s, at); got != prev || ok != isPrev {
		t.Fatalf("%q: Prev at %d: %v, %v; want %v, %v", s, at, got, ok, prev, isPrev)
	}
}
