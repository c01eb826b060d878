package sentence_test

import (
	"math"
	"math/rand"
	"slices"
	"strings"
	"testing"

	"kerf/api"
	"kerf/breaker"
	"kerf/props"
	"kerf/sentence"
)

// What stands here is the chapter spelt out as plainly as can be, on the calls of the layers below: the tests hold the package against it.

// byClass is one rune of each class, by the numbers of the names of api.SentenceProps: they have one to three bytes.
var byClass = []string{"\u2603", "\r", "\n", "\u2028", " ", "a", "A", "\u05d0", "7", ".", "?", ")", ",", "\u0301"}

const (
	other = iota
	cr
	lf
	sep
	sp
	lower
	upper
	letter
	digit
	stop
	term
	closing
	on
	extend
)

// more are others of the classes, and what belongs to no rune, or only to half of one.
var more = []string{"+", "\U0010ffff", "\ufffd", "\x00", "\u0085", "\u2029", "\t", "\u00a0", "\u3000", "z", "\u00e9", "\u044f", "Z", "\u00c9", "\u0416", "\u4e00", "\uac00", "\u0660", "\u2024", "\uff0e", "!", "\u3002", "\uff01", "\"", "(", "\u201d", "\u300d", "-", "\u2014", "\u3001", "\u00ad", "\u200d", "\ufe0f", "\U0001f3fb", "\U0001f600", "\r\n", "\x80", "\xff", "\xc3", "\xe2\x82", "\xf0\x9f\x87", "\xbf\xbf"}

// plain is the breaker that the chapter names.
func plain(t *testing.T) *breaker.Breaker {
	t.Helper()
	b, e, n := breaker.Parse(api.SentenceProps, api.SentenceRules)
	if e != api.OK {
		t.Fatalf("Parse: %d, %d", e, n)
	}
	if len(b.Db().Names()) != len(byClass) {
		t.Fatalf("names %q", b.Db().Names())
	}
	for class, s := range byClass {
		if got := b.Db().Of(s); len(got) != 1 || got[0] != class {
			t.Fatalf("%q is of %v, not of %d", s, got, class)
		}
	}
	return b
}

// rows goes over all texts of so many runes, each of one of these classes.
func rows(long int, classes ...int) func(func(string) bool) {
	return func(yield func(string) bool) {
		row := make([]int, long)
		for {
			var s strings.Builder
			for _, i := range row {
				s.WriteString(byClass[classes[i]])
			}
			if !yield(s.String()) {
				return
			}
			i := 0
			for i < long && row[i] == len(classes)-1 {
				row[i] = 0
				i++
			}
			if i == long {
				return
			}
			row[i]++
		}
	}
}

// all are the numbers of all classes.
func all() []int {
	var l []int
	for class := range byClass {
		l = append(l, class)
	}
	return l
}

// someText is at most so many runes and pieces of runes, those of few classes more often than the others.
func someText(r *rand.Rand, most int) string {
	few := byClass
	switch r.Intn(5) {
	case 0:
		few = []string{"a", "A", ".", ".", " ", "7", byClass[extend]}
	case 1:
		few = []string{".", "?", ")", "\"", " ", byClass[extend], "b", "B", "1"}
	case 2:
		few = []string{"It", " is", ". ", "! ", ".\" ", " (", ") ", "3.5", ", ", "\n"}
	case 3:
		few = []string{".", " ", ")", "a", "A", "\r", "\n", "\r\n", "\u2028", byClass[extend]}
	}
	var s strings.Builder
	for range r.Intn(most + 1) {
		switch r.Intn(8) {
		case 0:
			s.WriteString(more[r.Intn(len(more))])
		case 1:
			s.WriteString(byClass[r.Intn(len(byClass))])
		default:
			s.WriteString(few[r.Intn(len(few))])
		}
	}
	return s.String()
}

// around are all places of s, some below 0, and some above its length.
func around(s string) []int {
	l := []int{math.MinInt, math.MinInt + 1, -9, math.MaxInt - 1, math.MaxInt}
	for at := -2; at <= len(s)+2; at++ {
		l = append(l, at)
	}
	return l
}

// pair is what Each and Back tell.
type pair struct{ from, to int }

func pairs(seq func(func(int, int) bool)) []pair {
	var l []pair
	for from, to := range seq {
		l = append(l, pair{from, to})
	}
	return l
}

// sentences are those of s.
func sentences(s string) []string {
	var l []string
	for from, to := range sentence.Each(s) {
		l = append(l, s[from:to])
	}
	return l
}

// held is whether the package tells of s, by every call and at every place of it, what b does.
func held(t *testing.T, b *breaker.Breaker, s string) {
	t.Helper()
	if got, want := pairs(sentence.Each(s)), pairs(b.Each(s)); !slices.Equal(got, want) {
		t.Fatalf("%q: Each %v; want %v", s, got, want)
	}
	if got, want := pairs(sentence.Back(s)), pairs(b.Back(s)); !slices.Equal(got, want) {
		t.Fatalf("%q: Back %v; want %v", s, got, want)
	}
	if got, want := sentence.Count(s), b.Count(s); got != want {
		t.Fatalf("%q: Count %d; want %d", s, got, want)
	}
	for _, at := range around(s) {
		from, to := sentence.Around(s, at)
		if x, y := b.Around(s, at); from != x || to != y {
			t.Fatalf("%q: Around at %d: %d, %d; want %d, %d", s, at, from, to, x, y)
		}
		if sentence.Is(s, at) != b.Is(s, at) || sentence.Next(s, at) != b.Next(s, at) || sentence.Prev(s, at) != b.Prev(s, at) {
			t.Fatalf("%q: at %d", s, at)
		}
	}
	heldByBounds(t, b, s)
}

// heldByBounds is the same with one call of b alone, its list of bounds.
func heldByBounds(t *testing.T, b *breaker.Breaker, s string) {
	t.Helper()
	bounds := b.Bounds(s)
	if got := sentence.Bounds(s); !slices.Equal(got, bounds) {
		t.Fatalf("%q: Bounds %v; want %v", s, got, bounds)
	}
	if got := sentence.Count(s); got != max(len(bounds), 1)-1 {
		t.Fatalf("%q: Count %d; want %d", s, got, len(bounds)-1)
	}
	k := len(bounds) - 1
	for from, to := range sentence.Back(s) {
		if k < 1 || from != bounds[k-1] || to != bounds[k] {
			t.Fatalf("%q: Back %d, %d of %v", s, from, to, bounds)
		}
		k--
	}
	if k > 0 {
		t.Fatalf("%q: Back ends ahead of %d", s, bounds[k])
	}
	for _, at := range around(s) {
		if got, want := sentence.Is(s, at), slices.Contains(bounds, at); got != want {
			t.Fatalf("%q: Is at %d: %v; want %v", s, at, got, want)
		}
		next, prev := len(s), 0
		for _, bound := range slices.Backward(bounds) {
			if bound > at {
				next = bound
			}
		}
		for _, bound := range bounds {
			if bound < at {
				prev = bound
			}
		}
		if got := sentence.Next(s, at); got != next {
			t.Fatalf("%q: Next at %d: %d; want %d", s, at, got, next)
		}
		if got := sentence.Prev(s, at); got != prev {
			t.Fatalf("%q: Prev at %d: %d; want %d", s, at, got, prev)
		}
		wantFrom, wantTo := 0, 0
		for i := 1; i < len(bounds); i++ {
			if bounds[i-1] <= at && at < bounds[i] {
				wantFrom, wantTo = bounds[i-1], bounds[i]
			}
		}
		if from, to := sentence.Around(s, at); from != wantFrom || to != wantTo {
			t.Fatalf("%q: Around at %d: %d, %d; want %d, %d", s, at, from, to, wantFrom, wantTo)
		}
	}
}

// edges are the places where the runes of s begin, and its length.
func edges(s string) []int {
	var l []int
	for at := range s {
		l = append(l, at)
	}
	return append(l, len(s))
}

// between has the classes of the runes of s between two edges of it, and these edges; false, if from or to is none, or from is above to.
func between(d *props.Db, s string, from, to int) (classes, places []int, ok bool) {
	l := edges(s)
	if from > to || !slices.Contains(l, from) || !slices.Contains(l, to) {
		return nil, nil, false
	}
	i, j := slices.Index(l, from), slices.Index(l, to)
	return d.Of(s)[i:j], l[i : j+1], true
}

// plainTrim is P13.2, word for word.
func plainTrim(d *props.Db, s string, from, to int) (int, int) {
	classes, places, ok := between(d, s, from, to)
	if !ok {
		return 0, 0
	}
	isBlank := func(class int) bool { return slices.Contains([]int{sp, sep, cr, lf}, class) }
	i, j := 0, len(classes)
	for i < j && isBlank(classes[i]) {
		i++
	}
	if i == j {
		return to, to
	}
	for isBlank(classes[j-1]) {
		j--
	}
	return places[i], places[j]
}

// plainKind is P13.2, word for word: of each Stop and Term, whether only such runes stand behind it.
func plainKind(d *props.Db, s string, from, to int) int {
	classes, _, ok := between(d, s, from, to)
	kind := api.KindNone
	for i, class := range classes {
		only := !slices.ContainsFunc(classes[i+1:], func(behind int) bool {
			return !slices.Contains([]int{closing, sp, sep, cr, lf, extend}, behind)
		})
		switch {
		case ok && only && class == stop:
			kind = api.KindStop
		case ok && only && class == term:
			kind = api.KindTerm
		}
	}
	return kind
}

// plainFirst is P13.2 by b's bounds.
func plainFirst(b *breaker.Breaker, s string, n int) string {
	bounds := b.Bounds(s)
	switch {
	case n < 1:
		return ""
	case n < len(bounds):
		return s[:bounds[n]]
	}
	return s
}

// heldTrimmed is whether Trim and Kind tell, at every two places of s, what the chapter does.
func heldTrimmed(t *testing.T, d *props.Db, s string) {
	t.Helper()
	for _, from := range around(s) {
		for _, to := range around(s) {
			x, y := sentence.Trim(s, from, to)
			if wantX, wantY := plainTrim(d, s, from, to); x != wantX || y != wantY {
				t.Fatalf("%q: Trim from %d to %d: %d, %d; want %d, %d", s, from, to, x, y, wantX, wantY)
			}
			if got, want := sentence.Kind(s, from, to), plainKind(d, s, from, to); got != want {
				t.Fatalf("%q: Kind from %d to %d: %d; want %d", s, from, to, got, want)
			}
		}
	}
}
