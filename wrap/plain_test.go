package wrap_test

import (
	"cmp"
	"math/rand"
	"slices"
	"strings"
	"testing"

	"kerf/api"
	"kerf/breaker"
	"kerf/width"
)

// What stands here is the chapter spelt out as plainly as can be, on the calls of the layers below: the tests hold the package against it.

// sheet is boxes, and how lines are made of them.
type sheet struct {
	l []api.Box
	w api.Wrap
}

// isFirst and isLast are whether a box is its paragraph's first, or its last.
func (x sheet) isFirst(i int) bool { return i == 0 || x.l[i-1].Must }
func (x sheet) isLast(j int) bool  { return j == len(x.l)-1 || x.l[j].Must }

// oneParagraph is whether no paragraph ends ahead of j, from i on.
func (x sheet) oneParagraph(i, j int) bool {
	return !slices.ContainsFunc(x.l[i:j], func(b api.Box) bool { return b.Must })
}

func (x sheet) room(i int) int {
	if x.isFirst(i) {
		return x.w.Width - x.w.First
	}
	return x.w.Width - x.w.Rest
}

func (x sheet) size(i, j int) int {
	n := 0
	for _, b := range x.l[i:j] {
		n += b.Width + b.Blank
	}
	n += x.l[j].Width
	if !x.isLast(j) {
		n += x.l[j].Hyphen
	}
	return n
}

func (x sheet) fits(i, j int) bool { return i == j || x.size(i, j) <= x.room(i) }

// isList is whether ends is a list that P16.3 speaks of, clause by clause.
func (x sheet) isList(ends []int) bool {
	for k, end := range ends {
		if end < 0 || end >= len(x.l) || k > 0 && end <= ends[k-1] {
			return false
		}
	}
	for j := range x.l {
		if x.isLast(j) && !slices.Contains(ends, j) {
			return false
		}
	}
	from := 0
	for _, end := range ends {
		if !x.fits(from, end) {
			return false
		}
		from = end + 1
	}
	return true
}

// cost is P16.3 of such a list.
func (x sheet) cost(ends []int) int64 {
	sum, from := int64(0), 0
	for _, end := range ends {
		sum += x.lineCost(from, end)
		from = end + 1
	}
	return sum
}

func (x sheet) lineCost(i, j int) int64 {
	n, r := int64(x.size(i, j)), int64(x.room(i))
	switch {
	case n > r:
		return 10 * (n - r) * (n - r)
	case x.isLast(j):
		return 0
	}
	return (r - n) * (r - n)
}

// ways are all lists of numbers of boxes, as far as they are ways to break them into lines that fit.
func (x sheet) ways() [][]int {
	var l [][]int
	for mask := range 1 << len(x.l) {
		var ends []int
		for j := range x.l {
			if mask>>j&1 == 1 {
				ends = append(ends, j)
			}
		}
		if x.isList(ends) {
			l = append(l, ends)
		}
	}
	return l
}

// better is which of two ways WrapEven takes: below 0 the first one.
func (x sheet) better(a, b []int) int {
	if c := cmp.Compare(x.cost(a), x.cost(b)); c != 0 {
		return c
	}
	if c := cmp.Compare(len(a), len(b)); c != 0 {
		return c
	}
	return slices.Compare(b, a) // up to where they part, lines with more boxes end with later ones
}

// even is P16.2, of all ways.
func (x sheet) even() []int { return slices.MinFunc(x.ways(), x.better) }

// greedy is P16.2, each line tried from the end of its paragraph on.
func (x sheet) greedy() []int {
	var ends []int
	for from := 0; from < len(x.l); {
		j := len(x.l) - 1
		for !x.oneParagraph(from, j) || !x.fits(from, j) {
			j--
		}
		ends = append(ends, j)
		from = j + 1
	}
	return ends
}

// least is what WrapEven costs and how many lines it has, reckoned from the first box on: of more boxes than one may try.
func (x sheet) least() (int64, int) {
	type sum struct {
		cost  int64
		lines int
	}
	best := make([]sum, len(x.l)+1)
	for j := range x.l {
		best[j+1].cost = -1
		for i := j; i >= 0 && x.oneParagraph(i, j); i-- {
			if !x.fits(i, j) {
				continue
			}
			one := sum{best[i].cost + x.lineCost(i, j), best[i].lines + 1}
			if was := best[j+1]; was.cost < 0 || one.cost < was.cost || one.cost == was.cost && one.lines < was.lines {
				best[j+1] = one
			}
		}
	}
	return best[len(x.l)].cost, best[len(x.l)].lines
}

// someBox is one of few cells, now and then of more than most lines have.
func someBox(r *rand.Rand) api.Box {
	b := api.Box{Width: r.Intn(4), Blank: r.Intn(3), Must: r.Intn(7) == 0}
	switch r.Intn(8) {
	case 0:
		b.Width = r.Intn(15)
	case 1, 2:
		b.Hyphen = r.Intn(4)
	case 3:
		b.Width = 0
	}
	return b
}

// someSheet has at most so many boxes.
func someSheet(r *rand.Rand, most int) sheet {
	x := sheet{w: api.Wrap{Width: 1 + r.Intn(9)}}
	for range r.Intn(most + 1) {
		x.l = append(x.l, someBox(r))
	}
	switch r.Intn(5) {
	case 0:
		x.w.First, x.w.Rest = r.Intn(4), r.Intn(4)
	case 1:
		x.w.First, x.w.Rest = r.Intn(12), r.Intn(12)
	case 2:
		for i := range x.l { // alike, so that many ways cost the same
			x.l[i].Width, x.l[i].Blank = r.Intn(2)*2, 0
		}
	case 3:
		for i := range x.l { // one paragraph, in lines of several boxes
			x.l[i] = api.Box{Width: 1 + r.Intn(5), Blank: 1, Hyphen: r.Intn(2)}
		}
		x.w.Width += 5
	}
	return x
}

// by is w with another How.
func by(how int, w api.Wrap) api.Wrap {
	w.How = how
	return w
}

// reading is what the tables and rules of chapter 14 say.
type reading struct {
	b     *breaker.Breaker
	names []string
}

func plain(t *testing.T) reading {
	t.Helper()
	b, e, n := breaker.Parse(api.LineProps, api.LineRules)
	if e != api.OK {
		t.Fatalf("Parse: %d, %d", e, n)
	}
	return reading{b, b.Db().Names()}
}

// upTo is the place behind the last rune of s that is of none of these classes.
func (x reading) upTo(s string, these ...string) int {
	classes, end := x.b.Db().Of(s), len(s)
	var places []int
	for at := range s {
		places = append(places, at)
	}
	for k := len(classes) - 1; k >= 0 && slices.Contains(these, x.names[classes[k]]); k-- {
		end = places[k]
	}
	return end
}

func (x reading) trail(s string) int { return x.upTo(s, "Sp", "Bk", "Cr", "Lf", "Zw") }

// boxes is P16.4 of an o that is taken, without its limits; and the bounds.
func (x reading) boxes(s string, o api.Cells) ([]api.Box, []int) {
	o.Start = 0
	bounds := x.b.Bounds(s)
	var l []api.Box
	for k := 1; k < len(bounds); k++ {
		piece := s[bounds[k-1]:bounds[k]]
		seen, inner := piece[:x.trail(piece)], piece[:x.upTo(piece, "Bk", "Cr", "Lf")]
		b := api.Box{Width: width.Text(seen, o), Blank: max(0, width.Text(inner, o)-width.Text(seen, o))}
		if runes := []rune(seen); len(runes) > 0 && runes[len(runes)-1] == 0xad {
			b.Hyphen = 1
		}
		b.Must = k == len(bounds)-1 || len(inner) < len(piece)
		l = append(l, b)
	}
	return l, bounds
}

// rows is P16.5 of boxes and the last boxes of their lines.
func (x reading) rows(s string, l sheet, bounds, ends []int) []api.Row {
	var rows []api.Row
	from := 0
	for _, end := range ends {
		row := api.Row{From: bounds[from], End: bounds[end+1], Indent: l.w.Rest}
		row.To = row.From + x.trail(s[row.From:row.End])
		if l.isFirst(from) {
			row.Indent = l.w.First
		}
		row.Hyphen = l.l[end].Hyphen != 0 && !l.isLast(end)
		rows = append(rows, row)
		from = end + 1
	}
	return rows
}

// fill is P16.6 of rows.
func fill(s string, rows []api.Row) string {
	text := ""
	for _, row := range rows {
		text += strings.Repeat(" ", row.Indent) + s[row.From:row.To]
		if row.Hyphen {
			text += "-"
		}
		text += "\n"
	}
	return text
}

// byKind are runes that chapter 14 tells apart, of several widths; and bytes that belong to no rune.
var byKind = []string{"a", "b", " ", "  ", "\t", "\n", "\r", "\r\n", "\v", "\f", "\u0085", "\u2028", "\u2029", "\u200b", "\u00ad", "\u2060", "\u00a0", "\u0301", "\u200d", "(", ")", "-", ",", "1", "$", "\u4e00", "\u3042", "\u03b1", "\u2014", "\U0001f600", "\U0001f1e6", "\u0600", "\ufffd", "\xff", "\xc2", "\x85", "\xad", "\xe2\x80", "\xf0\x9f"}

// someText is at most so many of byKind, those of few kinds more often than the others.
func someText(r *rand.Rand, most int) string {
	few := byKind
	switch r.Intn(5) {
	case 0:
		few = []string{"a", "bc", "def ", " ", "\n", "gh  "}
	case 1:
		few = []string{"ab\u00ad", "c", "\u00ad", "\u00ad\u200b", " ", "\n"}
	case 2:
		few = []string{"\u4e00", "\u4e8c", " ", "\xff", "\u200b", "\r\n"}
	case 3:
		few = []string{"a\t", "\t", "b ", "-", "\u2029", "\u0600"}
	}
	var s strings.Builder
	for range r.Intn(most + 1) {
		if r.Intn(8) == 0 {
			s.WriteString(byKind[r.Intn(len(byKind))])
		} else {
			s.WriteString(few[r.Intn(len(few))])
		}
	}
	return s.String()
}

// o8 is how the chapter's examples count.
var o8 = api.Cells{Ambiguous: 1, Tab: 8}

// options are good ones, of both numbers of cells, with few stops and many, beginning at 0 and not.
var options = []api.Cells{o8, {Ambiguous: 2, Tab: 8}, {Ambiguous: 1, Tab: 1}, {Ambiguous: 2, Tab: 64}, {Ambiguous: 1, Tab: 8, Start: 3}, {Ambiguous: 2, Tab: 4, Start: 7}, {Ambiguous: 1, Tab: 5, Start: api.MaxStart}}

// refused are those that are not.
var refused = []api.Cells{{}, {Ambiguous: 3, Tab: 8}, {Ambiguous: 1, Tab: 0}, {Ambiguous: 1, Tab: api.MaxTab + 1}, {Ambiguous: 1, Tab: 8, Start: -1}, {Ambiguous: 1, Tab: 8, Start: api.MaxStart + 1}}
