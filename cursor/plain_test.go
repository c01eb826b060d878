package cursor_test

import (
	"math"
	"math/rand"
	"slices"
	"strings"
	"testing"

	"kerf/api"
	"kerf/cursor"
	"kerf/grapheme"
	"kerf/places"
	"kerf/sentence"
	"kerf/utf"
	"kerf/width"
	"kerf/word"
)

// What stands here is the chapter spelt out as plainly as can be, on the calls of the layers below: the tests hold the package against it.

// o8 is how the chapter's examples count cells.
var o8 = api.Cells{Ambiguous: 1, Tab: 8, Start: 0}

// options are good ones, and refused are not.
var (
	options = []api.Cells{o8, {Ambiguous: 2, Tab: 4, Start: 0}, {Ambiguous: 1, Tab: 3, Start: 2}, {Ambiguous: 2, Tab: 64, Start: api.MaxStart}}
	refused = []api.Cells{{}, {Ambiguous: 3, Tab: 8}, {Ambiguous: 1, Tab: 0}, {Ambiguous: 1, Tab: 65}, {Ambiguous: 1, Tab: 8, Start: -1}, {Ambiguous: 1, Tab: 8, Start: api.MaxStart + 1}, {Ambiguous: math.MinInt, Tab: math.MaxInt, Start: math.MinInt}}
)

// byStep are the kinds that go by steps, toPlace those that lead to one place, and none are no kinds.
var (
	byStep  = []int{api.ToLetter, api.ToWord, api.ToSentence, api.ToLine}
	toPlace = []int{api.ToHome, api.ToEnd, api.ToInk, api.ToBegin, api.ToLast}
	none    = []int{-1, 10, 99, math.MinInt, math.MaxInt}
	every   = slices.Concat(byStep, toPlace, []int{api.ToRow}, none)
)

// parts are letters of one rune, runes that make letters with what stands ahead or behind (of which words and sentences part some), what ends sentences and lines, blanks, and what belongs to no rune, or only to half of one.
var parts = []string{"a", "B", "7", " ", ".", "!", "\u0903", "\u0600", "\u0301", "\u200d", "\U0001f1e6", "\u4e00", "\t", "\n", "\r", "\u2028", "\xff", "\xe2\x82", "\xac"}

// more are others of them.
var more = []string{"b", "C", "'", ",", "\u00ad", "\u00a0", "\u3000", "\u1100\u1161", "\uac01", "\u11a8", "\u00a9", "\ufe0f", "\U0001f600", "\u03b1", "\u05d0", "\u30ab", "\v", "\f", "\u0085", "\u2029", "\r\n", "\n\r", "\x85", "\xc2", "\xf0\x9f\x98", "\xed\xa0\x80", "\x00", "\ufffd"}

// span is from where to where a word stands.
type span struct{ from, to int }

// plain is a text of which all is known.
type plain struct {
	s                  string
	letters, sentences []int // their bounds
	words              []span
	lines              *places.Index
}

func plainOf(s string) plain {
	p := plain{s: s, letters: grapheme.Bounds(s), sentences: sentence.Bounds(s), lines: places.New(s)}
	for from, w := range word.Words(s) {
		p.words = append(p.words, span{from, from + len(w)})
	}
	return p
}

// above is the least of the bounds above at; at, if there is none.
func above(bounds []int, at int) int {
	for _, bound := range bounds {
		if bound > at {
			return bound
		}
	}
	return at
}

// below is the greatest of the bounds below at; at, if there is none.
func below(bounds []int, at int) int {
	for _, bound := range slices.Backward(bounds) {
		if bound < at {
			return bound
		}
	}
	return at
}

// snap is P21.1.
func (p plain) snap(at int) int {
	if at >= len(p.s) {
		return len(p.s)
	}
	greatest := 0
	for _, bound := range p.letters {
		if bound <= at {
			greatest = bound
		}
	}
	return greatest
}

// line is that in which snap of at lies: its row, where it begins, and where it ends without what ends it.
func (p plain) line(at int) (row, from, to int) {
	row = p.lines.Point(p.snap(at)).Row
	from, to, _ = p.lines.Line(row)
	return row, from, to
}

// begin is where the line of that row begins; at, if there is none.
func (p plain) begin(row, at int) int {
	if row < 0 || row >= p.lines.Lines() {
		return at
	}
	from, _, _ := p.lines.Line(row)
	return from
}

// on is where one step on comes to, by the table of P21.2.
func (p plain) on(at, kind int) int {
	to := at
	switch kind {
	case api.ToLetter:
		to = above(p.letters, at)
	case api.ToWord:
		to = len(p.s)
		for _, w := range slices.Backward(p.words) {
			if w.to > at {
				to = w.to
			}
		}
	case api.ToSentence:
		to = above(p.sentences, at)
	case api.ToLine:
		row, _, _ := p.line(at)
		to = p.begin(row+1, at)
	}
	if to > at && p.snap(to) == at {
		return above(p.letters, at)
	}
	return p.snap(to)
}

// back is where one step back comes to.
func (p plain) back(at, kind int) int {
	to := at
	switch kind {
	case api.ToLetter:
		to = below(p.letters, at)
	case api.ToWord:
		to = 0
		for _, w := range p.words {
			if w.from < at {
				to = w.from
			}
		}
	case api.ToSentence:
		to = below(p.sentences, at)
	case api.ToLine:
		row, from, _ := p.line(at)
		to = from
		if from == at {
			to = p.begin(row-1, at)
		}
	}
	return p.snap(to)
}

// step is P21.2.
func (p plain) step(at, kind, n int) int {
	at = p.snap(at)
	for ; n > 0; n-- {
		to := p.on(at, kind)
		if to == at {
			return at
		}
		at = to
	}
	for ; n < 0; n++ {
		to := p.back(at, kind)
		if to == at {
			return at
		}
		at = to
	}
	return at
}

// column is P21.3.
func (p plain) column(at int, o api.Cells) int {
	if width.Check(o) != api.OK {
		return 0
	}
	_, from, to := p.line(at)
	return width.Text(p.s[from:min(p.snap(at), to)], o)
}

// row is P21.4.
func (p plain) row(c api.Cursor, n int, o api.Cells) api.Cursor {
	goal := c.Goal
	if goal < 0 {
		goal = p.column(c.At, o)
	}
	if n == 0 {
		return api.Cursor{At: p.snap(c.At), Goal: goal}
	}
	row, _, _ := p.line(c.At)
	for ; n > 0 && row < p.lines.Lines()-1; n-- {
		row++
	}
	for ; n < 0 && row > 0; n++ {
		row--
	}
	from, to, _ := p.lines.Line(row)
	if width.Check(o) != api.OK {
		return api.Cursor{At: from, Goal: goal}
	}
	return api.Cursor{At: from + width.Hit(p.s[from:to], goal, o), Goal: goal}
}

// do is P21.5.
func (p plain) do(c api.Cursor, m api.Motion, o api.Cells) api.Cursor {
	_, from, to := p.line(c.At)
	switch m.Kind {
	case api.ToLetter, api.ToWord, api.ToSentence, api.ToLine:
		return api.Cursor{At: p.step(c.At, m.Kind, m.N), Goal: -1}
	case api.ToRow:
		return p.row(c, m.N, o)
	case api.ToHome:
		return api.Cursor{At: from, Goal: -1}
	case api.ToEnd:
		return api.Cursor{At: to, Goal: -1}
	case api.ToInk:
		return api.Cursor{At: p.ink(from, to), Goal: -1}
	case api.ToBegin:
		return api.Cursor{At: 0, Goal: -1}
	case api.ToLast:
		return api.Cursor{At: len(p.s), Goal: -1}
	}
	return api.Cursor{At: p.snap(c.At), Goal: c.Goal}
}

// ink is the first letter from from to to that does not begin with one of the runes that are Sp in api.SentenceProps.
func (p plain) ink(from, to int) int {
	for _, at := range p.letters {
		if at < from || at >= to {
			continue
		}
		r, _ := utf.Decode(p.s[at:])
		if !strings.ContainsRune("\t\v\f \u00a0\u1680\u2000\u2001\u2002\u2003\u2004\u2005\u2006\u2007\u2008\u2009\u200a\u202f\u205f\u3000", r) {
			return at
		}
	}
	return to
}

// erase is P21.6.
func (p plain) erase(c api.Cursor, m api.Motion, o api.Cells) (string, api.Cursor) {
	d, a := p.do(c, m, o), p.snap(c.At)
	q := plainOf(p.s[:min(a, d.At)] + p.s[max(a, d.At):])
	return q.s, api.Cursor{At: q.snap(min(a, d.At)), Goal: -1}
}

// put is P21.6.
func (p plain) put(c api.Cursor, t string) (string, api.Cursor) {
	a := p.snap(c.At)
	q := plainOf(p.s[:a] + t + p.s[a:])
	at := a + len(t)
	if q.snap(at) != at {
		at = above(q.letters, at)
	}
	return q.s, api.Cursor{At: at, Goal: -1}
}

// around are all places of s, some below 0, and some above its length.
func around(s string) []int {
	l := []int{math.MinInt, -7, math.MaxInt}
	for at := -1; at <= len(s)+1; at++ {
		l = append(l, at)
	}
	return l
}

// numbers are of steps, and goals of columns.
var (
	numbers = []int{0, 1, -1, 2, -2, 3, -4, math.MaxInt, math.MinInt}
	goals   = []int{-1, 0, 1, 3, 9, math.MaxInt, math.MinInt}
)

// held is whether the package tells of s, at every place and by every kind, what the chapter does of steps.
func held(t *testing.T, s string) {
	t.Helper()
	p := plainOf(s)
	for _, at := range around(s) {
		if got, want := cursor.Snap(s, at), p.snap(at); got != want {
			t.Fatalf("%q: Snap at %d: %d; want %d", s, at, got, want)
		}
		for _, kind := range byStep {
			for _, n := range numbers {
				if got, want := cursor.Step(s, at, kind, n), p.step(at, kind, n); got != want {
					t.Fatalf("%q: Step at %d of kind %d by %d: %d; want %d", s, at, kind, n, got, want)
				}
			}
		}
	}
}

// heldRows is held of columns, rows and motions, by this o.
func heldRows(t *testing.T, s string, o api.Cells) {
	t.Helper()
	p := plainOf(s)
	for i, at := range around(s) {
		if got, want := cursor.Column(s, at, o), p.column(at, o); got != want {
			t.Fatalf("%q: Column at %d, %v: %d; want %d", s, at, o, got, want)
		}
		for k, goal := range goals {
			c := api.Cursor{At: at, Goal: goal}
			for _, n := range numbers {
				if got, want := cursor.Row(s, c, n, o), p.row(c, n, o); got != want {
					t.Fatalf("%q: Row of %v by %d, %v: %v; want %v", s, c, n, o, got, want)
				}
			}
			heldMotion(t, p, c, api.Motion{Kind: every[(2*i+k)%len(every)], N: numbers[(i+k)%len(numbers)]}, o)
		}
	}
}

// heldMotion is held of one motion, and of what it erases.
func heldMotion(t *testing.T, p plain, c api.Cursor, m api.Motion, o api.Cells) {
	t.Helper()
	if got, want := cursor.Do(p.s, c, m, o), p.do(c, m, o); got != want {
		t.Fatalf("%q: Do of %v by %v, %v: %v; want %v", p.s, c, m, o, got, want)
	}
	got, there := cursor.Erase(p.s, c, m, o)
	if want, at := p.erase(c, m, o); got != want || there != at {
		t.Fatalf("%q: Erase of %v by %v, %v: %q, %v; want %q, %v", p.s, c, m, o, got, there, want, at)
	}
}

// heldPut is held of s with u put in.
func heldPut(t *testing.T, s, u string) {
	t.Helper()
	p := plainOf(s)
	for _, at := range around(s) {
		c := api.Cursor{At: at, Goal: at}
		got, there := cursor.Put(s, c, u)
		if want, at := p.put(c, u); got != want || there != at {
			t.Fatalf("%q: Put of %q at %v: %q, %v; want %q, %v", s, u, c, got, there, want, at)
		}
	}
}

// rows goes over all texts of so many of these.
func rows(long int, of ...string) func(func(string) bool) {
	return func(yield func(string) bool) {
		row := make([]int, long)
		for {
			var s strings.Builder
			for _, i := range row {
				s.WriteString(of[i])
			}
			if !yield(s.String()) {
				return
			}
			i := 0
			for i < long && row[i] == len(of)-1 {
				row[i] = 0
				i++
			}
			if i == long {
				return
			}
			row[i]++
		}
	}
}

// someText is at most so many of the parts, those of some few more often than the others.
func someText(r *rand.Rand, most int) string {
	few := parts
	switch r.Intn(5) {
	case 0:
		few = []string{"ab", "c", " ", "3.5", "e\u0301", "\n"}
	case 1:
		few = []string{"It", " is", ". ", "! ", "no", "\u0903", "\n"}
	case 2:
		few = []string{"\U0001f1e6", "\U0001f1e7", "\u0600", "a", "\u200d", "\u00a9"}
	case 3:
		few = []string{"a", "\u4e00", "\t", "\r\n", "\u2028", "b"}
	}
	var s strings.Builder
	for range r.Intn(most + 1) {
		switch r.Intn(8) {
		case 0:
			s.WriteString(more[r.Intn(len(more))])
		case 1:
			s.WriteString(parts[r.Intn(len(parts))])
		default:
			s.WriteString(few[r.Intn(len(few))])
		}
	}
	return s.String()
}
