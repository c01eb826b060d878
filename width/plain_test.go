package width_test

import (
	"math"
	"math/rand"
	"slices"
	"strings"
	"testing"

	"kerf/api"
	"kerf/breaker"
	"kerf/props"
	"kerf/width"
)

// What stands here is the chapter spelt out as plainly as can be, on the calls of the layers below: the tests hold the package against it.

// by is how cells are counted.
func by(ambiguous, tab, start int) api.Cells {
	return api.Cells{Ambiguous: ambiguous, Tab: tab, Start: start}
}

// reading is what the chapter's tables and rules say; names are those of the classes of its own, kinds those of chapter 11.
type reading struct {
	cells        *props.Db
	letters      *breaker.Breaker
	names, kinds []string
}

func plain(t *testing.T) reading {
	t.Helper()
	d, e, line := props.New(api.WidthProps)
	if e != api.OK {
		t.Fatalf("New: %d, %d", e, line)
	}
	b, e, n := breaker.Parse(api.GraphemeProps, api.GraphemeRules)
	if e != api.OK {
		t.Fatalf("Parse: %d, %d", e, n)
	}
	return reading{d, b, d.Names(), b.Db().Names()}
}

// cellsOf is P15.2.
func (x reading) cellsOf(r rune, o api.Cells) int {
	if r >= 0xd800 && r <= 0xdfff {
		r = api.Instead
	}
	switch x.names[x.cells.Get(r)] {
	case "Zero":
		return 0
	case "Wide":
		return 2
	case "Ambiguous":
		return o.Ambiguous
	}
	return 1
}

// isOf is whether r is of that class of chapter 11.
func (x reading) isOf(r rune, name string) bool {
	return x.kinds[x.letters.Db().Get(r)] == name
}

// split are the letters of s.
func (x reading) split(s string) []string {
	var l []string
	for from, to := range x.letters.Each(s) {
		l = append(l, s[from:to])
	}
	return l
}

// letter is P15.3 of a text that is one letter.
func (x reading) letter(letter string, o api.Cells) int {
	runes, most := []rune(letter), 0
	for _, r := range runes {
		most = max(most, x.cellsOf(r, o))
	}
	if len(runes) > 1 && x.isOf(runes[0], "Flag") && x.isOf(runes[1], "Flag") {
		return 2
	}
	if x.isOf(runes[0], "Pict") && slices.Contains(runes, 0xfe0f) {
		return max(most, 2)
	}
	return most
}

// ends is whether a letter ends a line.
func ends(letter string) bool {
	return slices.Contains([]rune{0xa, 0xb, 0xc, 0xd, 0x85, 0x2028, 0x2029}, []rune(letter)[0])
}

// columns are those ahead of each of the letters, and behind the last one.
func (x reading) columns(letters []string, o api.Cells) []int {
	column := o.Start
	l := []int{column}
	for _, letter := range letters {
		switch {
		case ends(letter):
			column = 0
		case letter[0] == '\t':
			for column++; column%o.Tab != 0; {
				column++
			}
		default:
			column += x.letter(letter, o)
		}
		l = append(l, column)
	}
	return l
}

// fits is whether no one of the letters ends a line, and behind none of them the column is above cells.
func (x reading) fits(letters []string, cells int, o api.Cells) bool {
	if slices.ContainsFunc(letters, ends) {
		return false
	}
	return !slices.ContainsFunc(x.columns(letters, o)[1:], func(column int) bool { return column > cells })
}

// last is the column behind the letters.
func (x reading) last(letters []string, o api.Cells) int {
	return x.columns(letters, o)[len(letters)]
}

// cut is P15.5: the longest one that fits, tried one by one.
func (x reading) cut(letters []string, cells int, o api.Cells) (string, int) {
	for n := len(letters); n >= 0; n-- {
		if x.fits(letters[:n], cells, o) {
			return strings.Join(letters[:n], ""), x.last(letters[:n], o)
		}
	}
	panic("nothing fits")
}

// short is P15.6, tried one by one.
func (x reading) short(letters []string, cells int, tail []string, o api.Cells) string {
	cut, _ := x.cut(letters, cells, o)
	if whole := strings.Join(letters, ""); cut == whole || o.Start > cells {
		return cut
	}
	for n := len(letters); n >= 0; n-- {
		there := o
		there.Start = x.last(letters[:n], o)
		if x.fits(letters[:n], cells, o) && x.fits(tail, cells, there) {
			return strings.Join(letters[:n], "") + strings.Join(tail, "")
		}
	}
	return cut
}

// pad is P15.7, blank by blank.
func (x reading) pad(letters []string, cells, left int, o api.Cells) string {
	s, text := strings.Join(letters, ""), x.last(letters, o)
	if slices.ContainsFunc(letters, ends) || cells <= text || cells-text > 10000 {
		return s
	}
	ahead, behind := "", ""
	for i := range cells - text {
		if i < left {
			ahead += " "
		} else {
			behind += " "
		}
	}
	return ahead + s + behind
}

// plain is P15.8.
func (x reading) plain(letters []string, o api.Cells) string {
	columns, s := x.columns(letters, o), ""
	for i, letter := range letters {
		if letter[0] != '\t' {
			s += letter
			continue
		}
		for range columns[i+1] - columns[i] {
			s += " "
		}
	}
	return s
}

// hit is P15.9, clause by clause.
func (x reading) hit(letters []string, column int, o api.Cells) int {
	if i := slices.IndexFunc(letters, ends); i >= 0 {
		letters = letters[:i]
	}
	columns := x.columns(letters, o)
	switch {
	case column < o.Start:
		return 0
	case columns[len(letters)] <= column:
		return len(strings.Join(letters, ""))
	}
	at := 0
	for i := range letters {
		if columns[i] <= column {
			at = len(strings.Join(letters[:i], ""))
		}
	}
	return at
}

// byKind are runes of each class of the width and of each class of chapter 11, as far as a rune has both; and bytes that belong to no rune.
var byKind = []string{"a", " ", "\t", "\r", "\n", "\v", "\f", "\u0085", "\u2028", "\u2029", "\x00", "\u200b", "\u00ad", "\u200f", "\u0301", "\u3099", "\ufe0f", "\u0903", "\u0e33", "\u200d", "\u0600", "\u1100", "\u1161", "\u11a8", "\uac00", "\u4e00", "\u03b1", "\u25a0", "\u2194", "\u00a9", "\U0001f600", "\U0001f1e6", "\ufffd", "\U0010ffff", "\xff", "\x85", "\xe2\x80", "\xf0\x9f\x87"}

// tails are what Short lays behind a text: nothing, too much, with tabs, line ends, marks at the beginning, bytes that belong to no rune.
var tails = []string{"", ".", "..", "\u4e00", "\u200b", "\t", ".\t", "\t.", "\t\t", "a\tb\tc", "\n", ".\n", "\u2028.", "\r\n", "\u0301", "\u0301.", "\u0903x", "\ufe0f", "\xff", "\xa8", "\U0001f1e6", ".........."}

// options are good ones: of both numbers of cells, with few stops and many, at a stop, ahead of one and behind one, and at the limit.
var options = []api.Cells{by(1, 8, 0), by(2, 8, 0), by(1, 1, 0), by(2, 64, 0), by(1, 4, 3), by(2, 8, 7), by(1, 8, 8), by(2, 3, 5), by(1, 64, 63), by(1, 1, 9), by(2, 64, api.MaxStart), by(1, 7, api.MaxStart-1)}

// refused are those that are not.
var refused = []api.Cells{{}, by(0, 8, 0), by(3, 8, 0), by(-1, 8, 0), by(1, 0, 0), by(1, 65, 0), by(1, -8, 0), by(1, 8, -1), by(1, 8, api.MaxStart+1), by(math.MinInt, math.MinInt, math.MinInt), by(math.MaxInt, 8, 0), by(2, math.MaxInt, 0), by(2, math.MinInt, 0), by(1, 8, math.MaxInt), by(1, 8, math.MinInt), by(3, 65, -1)}

// rows goes over all texts of so many of these.
func rows(long int, of ...string) func(func(string) bool) {
	return func(yield func(string) bool) {
		row := make([]int, long)
		for {
			var s strings.Builder
			for _, i := range row {
				s.WriteString(of[i])
			}
			if !yield(s.String()) {
				return
			}
			i := 0
			for i < long && row[i] == len(of)-1 {
				row[i] = 0
				i++
			}
			if i == long {
				return
			}
			row[i]++
		}
	}
}

// someText is at most so many of byKind, those of few kinds more often than the others.
func someText(r *rand.Rand, most int) string {
	few := byKind
	switch r.Intn(5) {
	case 0:
		few = []string{"a", "b", "\t", "\u4e00", "\u0301", "\u03b1"}
	case 1:
		few = []string{"\U0001f1e6", "\U0001f1e7", "\ufe0f", "\u200d", "\u00a9", "\U0001f600"}
	case 2:
		few = []string{"ab", "\t", "\t", "\xff", "\x85", "\u4e00"}
	case 3:
		few = []string{"x", "\u4e00", "\u0903", "\u200b", "\u0600", "\u1100\u1161"}
	}
	var s strings.Builder
	for range r.Intn(most + 1) {
		if r.Intn(8) == 0 {
			s.WriteString(byKind[r.Intn(len(byKind))])
		} else {
			s.WriteString(few[r.Intn(len(few))])
		}
	}
	return s.String()
}

// numbers are all of cells from below 0, or from below the column at which a text begins, to above its width, and the least and the greatest.
func numbers(widest int, o api.Cells) []int {
	l := []int{math.MinInt, math.MinInt + 1, -100, math.MaxInt - 1, math.MaxInt, 0, 1, o.Start / 2}
	for n := o.Start - 3; n <= widest+3; n++ {
		l = append(l, n)
	}
	return l
}

// pair is what Each tells.
type pair struct{ at, column int }

func told(s string, o api.Cells) []pair {
	var l []pair
	for at, column := range width.Each(s, o) {
		l = append(l, pair{at, column})
	}
	return l
}

// held is whether the package tells of s, by every call, what the chapter does; of Short with this tail.
func held(t *testing.T, x reading, s, tail string, o api.Cells) {
	t.Helper()
	letters := x.split(s)
	columns := x.columns(letters, o)
	first := 0
	if s != "" {
		first = x.letter(letters[0], o)
	}
	if got := width.Letter(s, o); got != first {
		t.Fatalf("%q, %v: Letter %d; want %d", s, o, got, first)
	}
	if got, want := width.Text(s, o), columns[len(letters)]; got != want {
		t.Fatalf("%q, %v: Text %d; want %d", s, o, got, want)
	}
	var each []pair
	at := 0
	for i, letter := range letters {
		each = append(each, pair{at, columns[i]})
		at += len(letter)
	}
	if got := told(s, o); !slices.Equal(got, each) {
		t.Fatalf("%q, %v: Each %v; want %v", s, o, got, each)
	}
	widest := slices.Max(columns)
	if got := width.Widest(s, o); got != widest {
		t.Fatalf("%q, %v: Widest %d; want %d", s, o, got, widest)
	}
	if got, want := width.Plain(s, o), x.plain(letters, o); got != want {
		t.Fatalf("%q, %v: Plain %q; want %q", s, o, got, want)
	}
	behind := x.split(tail)
	for _, cells := range numbers(widest, o) {
		heldAt(t, x, s, letters, tail, behind, cells, o)
	}
}

// heldAt is held of Cut, Short, Pad and Hit at one number of cells.
func heldAt(t *testing.T, x reading, s string, letters []string, tail string, behind []string, cells int, o api.Cells) {
	t.Helper()
	cut, column := x.cut(letters, cells, o)
	if got, at := width.Cut(s, cells, o); got != cut || at != column {
		t.Fatalf("%q, %d, %v: Cut %q, %d; want %q, %d", s, cells, o, got, at, cut, column)
	}
	if got, want := width.Short(s, cells, tail, o), x.short(letters, cells, behind, o); got != want {
		t.Fatalf("%q, %d, %q, %v: Short %q; want %q", s, cells, tail, o, got, want)
	}
	left := len(tail) - 1
	if got, want := width.Pad(s, cells, left, o), x.pad(letters, cells, left, o); got != want {
		t.Fatalf("%q, %d, %d, %v: Pad %q; want %q", s, cells, left, o, got, want)
	}
	if got, want := width.Hit(s, cells, o), x.hit(letters, cells, o); got != want {
		t.Fatalf("%q, %d, %v: Hit %d; want %d", s, cells, o, got, want)
	}
}
