package places_test

import (
	"math"
	"math/rand"
	"slices"
	"sort"
	"strings"
	"testing"

	"kerf/api"
	"kerf/breaker"
	"kerf/places"
	"kerf/utf"
)

// What stands here is the chapter spelt out as plainly as can be, on the calls of the layers below: the tests hold the package against it.

// counts are the four, and none are others.
var (
	counts = []int{api.ByUnit, api.ByRune, api.ByByte, api.ByLetter}
	none   = []int{-1, 4, 5, math.MinInt, math.MaxInt}
)

// ends are what ends a line: a CR with its LF stands ahead of the two by themselves.
var ends = []string{"\r\n", "\n", "\v", "\f", "\r", "\u0085", "\u2028", "\u2029"}

// parts are runes of one to four bytes, of which several make a letter, what ends lines, and what belongs to no rune, or only to half of one.
var parts = []string{"a", "\u00e9", "\u4e00", "\U0001f600", "\u0301", "\u200d", "\U0001f1e6", "\u0600", "\r", "\n", "\v", "\u0085", "\u2028", "\x80", "\xff", "\xe2\x82", "\xf0\x9f\x98"}

// more are others of them.
var more = []string{"x", "\x00", "\t", "\f", "\u2029", "\r\n", "\n\r", "\ufffd", "\uffff", "\U00010000", "\U0010ffff", "\ufe0f", "\u1100", "\u1161", "\u11a8", "\uac01", "\u0903", "\U0001f1ff", "\U0001f468", "\u00ad", "\u0084", "\u0086", "\u2027", "\u202a", "\x85", "\xc2", "\xe2", "\xf0", "\xed\xa0\x80", "\xc0\x80", "\xbf\xbf"}

// row is where a line begins, ends without what ends it, and with that.
type row struct{ from, to, end int }

// plain is an index that knows every place.
type plain struct {
	s       string
	begins  [4][]int // where the things begin, by the four counts
	rows    []row
	letters [][]int // where those of the rows begin
}

// letters is the breaker by which chapter 11 cuts letters.
func letters(t *testing.T) *breaker.Breaker {
	t.Helper()
	b, e, n := breaker.Parse(api.GraphemeProps, api.GraphemeRules)
	if e != api.OK {
		t.Fatalf("Parse: %d, %d", e, n)
	}
	return b
}

func plainOf(b *breaker.Breaker, s string) *plain {
	x := &plain{s: s}
	for at, r := range utf.Each(s) {
		x.begins[api.ByRune] = append(x.begins[api.ByRune], at)
		x.begins[api.ByUnit] = append(x.begins[api.ByUnit], at)
		if r > 0xffff {
			x.begins[api.ByUnit] = append(x.begins[api.ByUnit], at+1)
		}
	}
	for at := range len(s) {
		x.begins[api.ByByte] = append(x.begins[api.ByByte], at)
	}
	x.begins[api.ByLetter] = lettersIn(b, s, 0)
	x.rows = rowsOf(s)
	for _, row := range x.rows {
		x.letters = append(x.letters, lettersIn(b, s[row.from:row.to], row.from))
	}
	return x
}

// lettersIn are the places at which the letters of s begin, each so much more.
func lettersIn(b *breaker.Breaker, s string, more int) []int {
	var l []int
	for from := range b.Each(s) {
		l = append(l, more+from)
	}
	return l
}

func rowsOf(s string) []row {
	var l []row
	from, at := 0, 0
edges:
	for at < len(s) {
		for _, end := range ends {
			if strings.HasPrefix(s[at:], end) {
				l = append(l, row{from, at, at + len(end)})
				at += len(end)
				from = at
				continue edges
			}
		}
		_, width := utf.Decode(s[at:])
		at += width
	}
	return append(l, row{from, at, at})
}

func (x *plain) len(by int) int {
	if !slices.Contains(counts, by) {
		return 0
	}
	return len(x.begins[by])
}

func (x *plain) to(by, at int) int {
	if !slices.Contains(counts, by) {
		return 0
	}
	return sort.SearchInts(x.begins[by], at)
}

func (x *plain) from(by, n int) int {
	switch {
	case n < 0:
		return 0
	case !slices.Contains(counts, by) || n >= len(x.begins[by]):
		return len(x.s)
	}
	return x.begins[by][n]
}

func (x *plain) line(n int) row {
	if n < 0 || n >= len(x.rows) {
		return row{}
	}
	return x.rows[n]
}

func (x *plain) point(at int) api.Point {
	n := sort.Search(len(x.rows), func(n int) bool { return x.rows[n].from > at }) - 1
	n = max(n, 0)
	return api.Point{Row: n, Col: sort.SearchInts(x.letters[n], at)}
}

func (x *plain) at(p api.Point) int {
	switch {
	case p.Row < 0:
		return 0
	case p.Row >= len(x.rows):
		return len(x.s)
	case p.Col < 0:
		return x.rows[p.Row].from
	case p.Col >= len(x.letters[p.Row]):
		return x.rows[p.Row].to
	}
	return x.letters[p.Row][p.Col]
}

// around are the numbers from -2 to two more than long, and the least and the greatest ones.
func around(long int) []int {
	l := []int{math.MinInt, math.MinInt + 1, math.MaxInt - 1, math.MaxInt}
	for n := -2; n <= long+2; n++ {
		l = append(l, n)
	}
	return l
}

// told is what Each tells.
func told(x *places.Index) []string {
	var l []string
	for n, s := range x.Each() {
		if n != len(l) {
			return nil
		}
		l = append(l, s)
	}
	return l
}

// held is whether an index tells what the plain one of that text does: at every place, and by every number.
func held(t *testing.T, b *breaker.Breaker, x *places.Index, s string) {
	t.Helper()
	y := plainOf(b, s)
	if x.Text() != s {
		t.Fatalf("%q: Text %q", s, x.Text())
	}
	heldCounts(t, x, y)
	heldLines(t, x, y)
	heldPoints(t, x, y)
}

func heldCounts(t *testing.T, x *places.Index, y *plain) {
	t.Helper()
	for _, by := range slices.Concat(counts, none) {
		if got, want := x.Len(by), y.len(by); got != want {
			t.Fatalf("%q: Len by %d: %d; want %d", y.s, by, got, want)
		}
		for _, n := range around(len(y.s)) {
			if got, want := x.To(by, n), y.to(by, n); got != want {
				t.Fatalf("%q: To by %d at %d: %d; want %d", y.s, by, n, got, want)
			}
			if got, want := x.From(by, n), y.from(by, n); got != want {
				t.Fatalf("%q: From by %d, %d: %d; want %d", y.s, by, n, got, want)
			}
		}
	}
}

func heldLines(t *testing.T, x *places.Index, y *plain) {
	t.Helper()
	if got, want := x.Lines(), len(y.rows); got != want {
		t.Fatalf("%q: Lines %d; want %d", y.s, got, want)
	}
	for _, n := range around(len(y.rows)) {
		from, to, end := x.Line(n)
		if got, want := (row{from, to, end}), y.line(n); got != want {
			t.Fatalf("%q: Line %d: %v; want %v", y.s, n, got, want)
		}
	}
	var want []string
	for _, row := range y.rows {
		want = append(want, y.s[row.from:row.to])
	}
	if got := told(x); !slices.Equal(got, want) {
		t.Fatalf("%q: Each %q; want %q", y.s, got, want)
	}
}

func heldPoints(t *testing.T, x *places.Index, y *plain) {
	t.Helper()
	for _, at := range around(len(y.s)) {
		if got, want := x.Point(at), y.point(at); got != want {
			t.Fatalf("%q: Point at %d: %v; want %v", y.s, at, got, want)
		}
	}
	for _, row := range around(len(y.rows)) {
		long := 0
		if row >= 0 && row < len(y.rows) {
			long = len(y.letters[row])
		}
		for _, col := range around(long) {
			p := api.Point{Row: row, Col: col}
			if got, want := x.At(p), y.at(p); got != want {
				t.Fatalf("%q: At %v: %d; want %d", y.s, p, got, want)
			}
		}
	}
}

// rows goes over all texts of so many of these parts.
func rows(long int, parts ...string) func(func(string) bool) {
	return func(yield func(string) bool) {
		row := make([]int, long)
		for {
			var s strings.Builder
			for _, i := range row {
				s.WriteString(parts[i])
			}
			if !yield(s.String()) {
				return
			}
			i := 0
			for i < long && row[i] == len(parts)-1 {
				row[i] = 0
				i++
			}
			if i == long {
				return
			}
			row[i]++
		}
	}
}

// someText is at most so many of the parts, those of some few more often than the others.
func someText(r *rand.Rand, most int) string {
	few := parts
	switch r.Intn(5) {
	case 0:
		few = []string{"\r", "\n", "\r\n", "a", "e\u0301"}
	case 1:
		few = []string{"\U0001f1e6", "\U0001f1e7", "\u0301", "\u0600", "\n"}
	case 2:
		few = []string{"\U0001f468", "\u200d", "\ufe0f", "a", "\u2028"}
	case 3:
		few = []string{"abc", " ", "\U0001f600", "\u4e00", "d"}
	}
	var s strings.Builder
	for range r.Intn(most + 1) {
		switch r.Intn(8) {
		case 0:
			s.WriteString(more[r.Intn(len(more))])
		case 1:
			s.WriteString(parts[r.Intn(len(parts))])
		default:
			s.WriteString(few[r.Intn(len(few))])
		}
	}
	return s.String()
}
