package pick_test

import (
	"math"
	"math/rand"
	"slices"
	"strings"
	"testing"

	"kerf/api"
	"kerf/cursor"
	"kerf/edit"
	"kerf/grapheme"
	"kerf/places"
	"kerf/search"
	"kerf/sentence"
	"kerf/width"
	"kerf/word"
)

// What stands here is the chapter spelt out as plainly as can be, on the calls of the layers below: the tests hold the package against it.

// o8 is how the chapter's examples count cells.
var o8 = api.Cells{Ambiguous: 1, Tab: 8, Start: 0}

// options are good ones, and refused are not.
var (
	options = []api.Cells{o8, {Ambiguous: 2, Tab: 4, Start: 0}, {Ambiguous: 1, Tab: 3, Start: 2}}
	refused = []api.Cells{{}, {Ambiguous: 3, Tab: 8}, {Ambiguous: 1, Tab: 65}, {Ambiguous: 1, Tab: 8, Start: -1}, {Ambiguous: math.MinInt, Tab: math.MaxInt, Start: math.MinInt}}
)

// grows are the kinds by which picks grow, and none are no kinds of motions either.
var (
	grows = []int{api.ToLetter, api.ToWord, api.ToSentence, api.ToLine}
	none  = []int{-1, 10, math.MinInt, math.MaxInt}
	every = slices.Concat(grows, []int{api.ToHome, api.ToEnd, api.ToInk, api.ToRow, api.ToBegin, api.ToLast}, none)
)

// numbers are of motions, goals of columns.
var (
	numbers = []int{0, 1, -1, 2, -2, 5, math.MaxInt, math.MinInt}
	goals   = []int{-1, 0, 1, 4, math.MaxInt, math.MinInt}
)

// parts are letters of one rune, runes that make letters with what stands ahead or behind (of which words and sentences part some), what ends sentences and lines, blanks, and what belongs to no rune, or only to half of one.
var parts = []string{"a", "B", "7", " ", ".", "!", "-", "\u0903", "\u0600", "\u0301", "e\u0301", "\u200d", "\U0001f1e6", "\u4e00", "\t", "\n", "\r", "\r\n", "\u2028", "\xff", "\xe2\x82", "\xac", "\xc3", "\u1100", "\u1161", "\ufffd"}

// someText is at most so many parts, those of some few more often than the others.
func someText(r *rand.Rand, most int) string {
	few := parts
	switch r.Intn(6) {
	case 0:
		few = []string{"ab", "c", " ", "3.5", "e\u0301", "\n"}
	case 1:
		few = []string{"It", " is", ". ", "! ", "no", "\u0903", "\n"}
	case 2:
		few = []string{"\U0001f1e6", "\U0001f1e7", "\u0600", "a"}
	case 3:
		few = []string{"a", "\u4e00", "\t", "\r\n", "\n", "\r"}
	}
	var b strings.Builder
	for range r.Intn(most + 1) {
		if r.Intn(4) == 0 {
			few = parts
		}
		b.WriteString(few[r.Intn(len(few))])
	}
	return b.String()
}

// some is one of a list.
func some[T any](r *rand.Rand, l []T) T { return l[r.Intn(len(l))] }

// somePicks are of a text, or stand beside it, with a main one that may be none.
func somePicks(r *rand.Rand, s string) api.Picks {
	place := func() int {
		if r.Intn(20) == 0 {
			return some(r, []int{math.MinInt, math.MaxInt, -9, len(s) + 9})
		}
		return r.Intn(len(s)+5) - 2
	}
	var p api.Picks
	for range r.Intn(6) {
		x := api.Pick{Anchor: place(), Head: place(), Goal: some(r, goals)}
		switch r.Intn(4) {
		case 0:
			x.Head = x.Anchor
		case 1:
			x.Head = x.Anchor + r.Intn(5) - 2
		}
		p.L = append(p.L, x)
	}
	p.Main = r.Intn(len(p.L)+3) - 1
	if r.Intn(20) == 0 {
		p.Main = some(r, []int{math.MinInt, math.MaxInt})
	}
	return p
}

// someMotion is one of any kind.
func someMotion(r *rand.Rand) api.Motion {
	return api.Motion{Kind: some(r, every), N: some(r, numbers)}
}

// someCells is mostly a good one.
func someCells(r *rand.Rand) api.Cells {
	if r.Intn(6) == 0 {
		return some(r, refused)
	}
	return some(r, options)
}

// someChange is a good one of a text of n bytes, seldom in normal form.
func someChange(r *rand.Rand, n int) api.Change {
	at := make([]int, 2*r.Intn(5))
	for i := range at {
		at[i] = r.Intn(n + 1)
		if i > 0 && r.Intn(3) == 0 {
			at[i] = at[i-1]
		}
	}
	slices.Sort(at)
	c := api.Change{Len: n}
	for pair := range slices.Chunk(at, 2) {
		c.Edits = append(c.Edits, api.Edit{From: pair[0], To: pair[1], Text: someText(r, r.Intn(3))})
	}
	return c
}

// plain is a pick, and whether it is the main one.
type plain struct {
	api.Pick
	main bool
}

func (x plain) from() int   { return min(x.Anchor, x.Head) }
func (x plain) to() int     { return max(x.Anchor, x.Head) }
func (x plain) empty() bool { return x.Anchor == x.Head }
func (x plain) back() bool  { return x.Head < x.Anchor }

// run is from from to to, as x ran.
func (x plain) run(from, to int) plain {
	if x.back() {
		from, to = to, from
	}
	return plain{api.Pick{Anchor: from, Head: to, Goal: -1}, x.main}
}

// meet is whether two picks meet, by the words ahead of P24.1.
func meet(a, b plain) bool {
	stands := func(a, b plain) bool { return a.empty() && b.from() <= a.from() && a.from() <= b.to() }
	return a.from() < b.to() && b.from() < a.to() || stands(a, b) || stands(b, a)
}

// snap is where a place is taken to: the greatest of 0, the length and the bounds of letters that is not above.
func snap(s string, at int) int {
	to := 0
	for _, bound := range append(grapheme.Bounds(s), len(s)) {
		if bound <= at {
			to = bound
		}
	}
	return to
}

// listOf is picks with the mark of the main one.
func listOf(p api.Picks) []plain {
	var l []plain
	for i, x := range p.L {
		l = append(l, plain{x, i == p.Main || i == 0 && (p.Main < 0 || p.Main >= len(p.L))})
	}
	return l
}

// picksOf is that turned round.
func picksOf(l []plain) api.Picks {
	var p api.Picks
	for i, x := range l {
		p.L = append(p.L, x.Pick)
		if x.main {
			p.Main = i
		}
	}
	return p
}

// norm is P24.1.
func norm(s string, l []plain) []plain {
	var row []plain
	for _, x := range l {
		x.Anchor, x.Head = snap(s, x.Anchor), snap(s, x.Head)
		i := 0 // behind all that do not stand above it
		for i < len(row) && (row[i].from() < x.from() || row[i].from() == x.from() && row[i].to() <= x.to()) {
			i++
		}
		row = slices.Insert(row, i, x)
	}
	for i := 0; i+1 < len(row); {
		a, b := row[i], row[i+1]
		if !meet(a, b) {
			i++
			continue
		}
		var back bool
		switch {
		case a.main:
			back = a.back()
		case b.main:
			back = b.back()
		case a.empty():
			back = b.back()
		default:
			back = a.back()
		}
		from, to := min(a.from(), b.from()), max(a.to(), b.to())
		if back {
			from, to = to, from
		}
		row[i] = plain{api.Pick{Anchor: from, Head: to, Goal: -1}, a.main || b.main}
		row = slices.Delete(row, i+1, i+2)
	}
	return row
}

func plainNorm(s string, p api.Picks) api.Picks { return picksOf(norm(s, listOf(p))) }

// each is what comes of Norm of p by what is done to each of its picks: Norm in s of all that is told.
func each(s string, p api.Picks, do func(x plain) []plain) api.Picks {
	var l []plain
	for _, x := range norm(s, listOf(p)) {
		l = append(l, do(x)...)
	}
	return picksOf(norm(s, l))
}

// plainTexts is P24.2.
func plainTexts(s string, p api.Picks) []string {
	var l []string
	for _, x := range norm(s, listOf(p)) {
		l = append(l, s[x.from():x.to()])
	}
	return l
}

// plainMove is P24.3.
func plainMove(s string, p api.Picks, m api.Motion, keep bool, o api.Cells) api.Picks {
	return each(s, p, func(x plain) []plain {
		d := cursor.Do(s, api.Cursor{At: x.Head, Goal: x.Goal}, m, o)
		x.Head, x.Goal = d.At, d.Goal
		if !keep {
			x.Anchor = d.At
		}
		return []plain{x}
	})
}

// boundsBy are the bounds of one of the four kinds.
func boundsBy(s string, kind int) []int {
	switch kind {
	case api.ToLetter:
		return grapheme.Bounds(s)
	case api.ToWord:
		return word.Bounds(s)
	case api.ToSentence:
		return sentence.Bounds(s)
	}
	var l []int
	x := places.New(s)
	for row := range x.Lines() {
		from, _, _ := x.Line(row)
		l = append(l, from)
	}
	return append(l, len(s))
}

// plainGrow is P24.4.
func plainGrow(s string, p api.Picks, kind int) api.Picks {
	if !slices.Contains(grows, kind) {
		return plainNorm(s, p)
	}
	bounds := boundsBy(s, kind)
	return each(s, p, func(x plain) []plain {
		from, to, found := 0, len(s), false
		for _, bound := range slices.Backward(bounds) {
			if bound > x.to() || bound == x.to() && !x.empty() {
				to, found = bound, true
			}
		}
		for _, bound := range bounds {
			if bound < x.from() || bound == x.from() && (found || !x.empty()) {
				from = bound
			}
		}
		return []plain{x.run(from, to)}
	})
}

// plainLines is P24.5.
func plainLines(s string, p api.Picks) api.Picks {
	lines := places.New(s)
	return each(s, p, func(x plain) []plain {
		var l []plain
		for row := range lines.Lines() {
			b, e, _ := lines.Line(row)
			if e >= x.from() && (b < x.to() || b <= x.from()) {
				one := x.run(max(x.from(), b), min(x.to(), e))
				one.main = x.main && len(l) == 0
				l = append(l, one)
			}
		}
		return l
	})
}

// plainRest is P24.5.
func plainRest(s string, p api.Picks) api.Picks {
	ends := []int{0}
	for _, x := range norm(s, listOf(p)) {
		ends = append(ends, x.from(), x.to())
	}
	var q api.Picks
	for pair := range slices.Chunk(append(ends, len(s)), 2) {
		if pair[0] < pair[1] {
			q.L = append(q.L, api.Pick{Anchor: pair[0], Head: pair[1], Goal: -1})
		}
	}
	return plainNorm(s, q)
}

// plainFound is P24.5.
func plainFound(s, t string, o api.Find) api.Picks {
	var p api.Picks
	for _, m := range search.All(s, t, o) {
		p.L = append(p.L, api.Pick{Anchor: m.From, Head: m.To, Goal: -1})
	}
	return plainNorm(s, p)
}

// plainBlock is P24.6.
func plainBlock(s string, a, b api.Spot, o api.Cells) api.Picks {
	if width.Check(o) != api.OK {
		return api.Picks{}
	}
	var l []plain
	lines := places.New(s)
	for row := range lines.Lines() {
		if row < a.Row && row < b.Row || row > a.Row && row > b.Row {
			continue
		}
		from, to, _ := lines.Line(row)
		anchor, head := from+width.Hit(s[from:to], a.Col, o), from+width.Hit(s[from:to], b.Col, o)
		l = append(l, plain{api.Pick{Anchor: anchor, Head: head, Goal: -1}, row == b.Row})
	}
	return picksOf(norm(s, l))
}

// plainThrough is P24.7.
func plainThrough(s string, c api.Change, p api.Picks) (api.Picks, api.Errno) {
	t, e := edit.Apply(s, c)
	if e != api.OK {
		return api.Picks{}, e
	}
	var l []plain
	for _, x := range norm(s, listOf(p)) {
		if x.empty() {
			at := edit.Move(c, x.from(), false)
			l = append(l, x.run(at, at))
			continue
		}
		from, to := edit.Move(c, x.from(), false), edit.Move(c, x.to(), true)
		l = append(l, x.run(min(from, to), to))
	}
	return picksOf(norm(t, l)), api.OK
}

// plainType is P24.8: the text is made of what stands between the picks, the change of each of them in its own place.
func plainType(s string, p api.Picks, texts []string) (string, api.Change, api.Picks) {
	made, at := "", 0
	c := api.Change{Len: len(s)}
	var l []plain
	for i, x := range norm(s, listOf(p)) {
		text := ""
		if len(texts) > 0 {
			text = texts[i%len(texts)]
		}
		made += s[at:x.from()] + text
		at = x.to()
		c.Edits = append(c.Edits, api.Edit{From: x.from(), To: x.to(), Text: text})
		l = append(l, x.run(len(made), len(made)))
	}
	made += s[at:]
	c, _ = edit.Norm(c)
	return made, c, picksOf(norm(made, l))
}

// plainErase is P24.9.
func plainErase(s string, p api.Picks, m api.Motion, o api.Cells) (string, api.Picks) {
	q := each(s, p, func(x plain) []plain {
		if x.empty() {
			x.Anchor, x.Head = x.Head, cursor.Do(s, api.Cursor{At: x.Head, Goal: x.Goal}, m, o).At
		}
		return []plain{x}
	})
	t, _, q := plainType(s, q, nil)
	return t, q
}

// same holds picks that are told against those of the plain reading.
func same(t *testing.T, got, want api.Picks, what string, with ...any) {
	t.Helper()
	if got.Main != want.Main || !slices.Equal(got.L, want.L) {
		t.Fatalf("%s of %q: %v; want %v", what, with, got, want)
	}
}

// alike is whether two changes are the same, edit for edit.
func alike(a, b api.Change) bool { return a.Len == b.Len && slices.Equal(a.Edits, b.Edits) }

// rows goes over all texts of so many of these.
func rows(long int, of ...string) func(func(string) bool) {
	return func(yield func(string) bool) {
		if long == 0 {
			yield("")
			return
		}
		for s := range rows(long-1, of...) {
			for _, last := range of {
				if !yield(s + last) {
					return
				}
			}
		}
	}
}

// lists goes over all picks of so many, with ends from low to high, with no columns.
func lists(long, low, high int) func(func([]api.Pick) bool) {
	return func(yield func([]api.Pick) bool) {
		if long == 0 {
			yield(nil)
			return
		}
		for l := range lists(long-1, low, high) {
			for anchor := low; anchor <= high; anchor++ {
				for head := low; head <= high; head++ {
					if !yield(append(slices.Clone(l), api.Pick{Anchor: anchor, Head: head, Goal: -1})) {
						return
					}
				}
			}
		}
	}
}
