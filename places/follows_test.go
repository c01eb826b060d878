package places_test

import (
	"math"
	"math/rand"
	"strings"
	"testing"

	"kerf/api"
	"kerf/grapheme"
	"kerf/places"
	"kerf/utf"
)

// TestP17_6 has changes by hand.
func TestP17_6(t *testing.T) {
	for _, c := range []struct {
		s        string
		from, to int
		t, want  string
	}{
		{example, 1, 7, "\n", "a\n\r\nx"},
		{"abc", 1, 2, "xyz", "axyzc"},
		{"abc", 1, 1, "x", "axbc"},
		{"abc", 0, 3, "", ""},
		{"abc", 0, 0, "", "abc"},
		{"abc", 3, 3, "d", "abcd"},
		{"abc", -1, 1, "x", "xbc"},
		{"abc", math.MinInt, math.MinInt, "x", "xabc"},
		{"abc", 2, 9, "x", "abx"},
		{"abc", 4, 5, "x", "abcx"},
		{"abc", math.MaxInt, math.MaxInt, "x", "abcx"},
		{"abc", math.MinInt, math.MaxInt, "x", "x"},
		{"abc", 2, 1, "x", "abxc"},            // to is below from
		{"abc", 2, -1, "x", "abxc"},           // and below 0
		{"abc", 9, 1, "x", "abcx"},            // from is above the length
		{"abc", math.MaxInt, -3, "x", "abcx"}, // and to below 0
		{"abc", -1, -2, "x", "xabc"},          // both are below 0
		{"", -1, 1, "", ""},                   // nothing in the place of nothing
		{"", 5, 3, "\r\n", "\r\n"},            // something
		{"\r-\n", 1, 2, "", "\r\n"},           // two ends of lines are one
		{"\u4e00", 1, 2, "", "\xe4\x80"},      // a rune is cut in two
		{"\xe4|\x80", 1, 2, "\xb8", "\u4e00"}, // and put together
		{"e-\u0301", 1, 2, "", "e\u0301"},     // two letters are one
		{"\U0001f1e6-\U0001f1e7", 4, 5, "", "\U0001f1e6\U0001f1e7"},
	} {
		x := places.New(c.s)
		y := x.Change(c.from, c.to, c.t)
		held(t, letters(t), y, c.want)
		held(t, letters(t), x, c.s)
	}
}

// TestP17_8 is there and back, of each count.
func TestP17_8(t *testing.T) {
	r := rand.New(rand.NewSource(178))
	texts := []string{"", example}
	for _, s := range long() {
		texts = append(texts, s)
	}
	for range 2000 {
		texts = append(texts, someText(r, 20))
	}
	for _, s := range texts {
		x := places.New(s)
		for _, by := range counts {
			for n := range x.Len(by) + 1 {
				if got := x.To(by, x.From(by, n)); got != n {
					t.Fatalf("%q: by %d, %d: %d", s, by, n, got)
				}
			}
		}
	}
}

// TestP17_9 is that lines are the text, and points lead there and back.
func TestP17_9(t *testing.T) {
	r := rand.New(rand.NewSource(179))
	texts := []string{"", example}
	for _, s := range long() {
		texts = append(texts, s)
	}
	for range 2000 {
		texts = append(texts, someText(r, 20))
	}
	for _, s := range texts {
		x := places.New(s)
		var whole strings.Builder
		for _, row := range lines(x) {
			if row.from != whole.Len() || row.to < row.from || row.end < row.to {
				t.Fatalf("%q: %v", s, row)
			}
			whole.WriteString(s[row.from:row.end])
			for from := range grapheme.Each(s[row.from:row.to]) {
				heldBack(t, x, row.from+from)
			}
			heldBack(t, x, row.to)
		}
		if whole.String() != s {
			t.Fatalf("%q: %q", s, whole.String())
		}
	}
}

func heldBack(t *testing.T, x *places.Index, at int) {
	t.Helper()
	if got := x.At(x.Point(at)); got != at {
		t.Fatalf("%q: at %d: %v, %d", x.Text(), at, x.Point(at), got)
	}
}

// TestP17_10 has changes, one behind the other, at any places, held against what New tells; the elder index stays.
func TestP17_10(t *testing.T) {
	b := letters(t)
	r := rand.New(rand.NewSource(1710))
	for range 150 {
		s := someText(r, 12)
		x := places.New(s)
		for range 8 {
			from, to, piece := r.Intn(len(s)+5)-2, r.Intn(len(s)+5)-2, someText(r, 3)
			first := min(max(from, 0), len(s))
			behind := max(min(max(to, 0), len(s)), first)
			changed := s[:first] + piece + s[behind:]
			y := x.Change(from, to, piece)
			held(t, b, y, changed)
			held(t, b, x, s)
			x, s = y, changed
		}
	}
}

// TestP17_10Long has a long text changed near every place that may be kept.
func TestP17_10Long(t *testing.T) {
	b := letters(t)
	s := strings.Repeat("e\u0301\r\n\U0001f1e6\U0001f1e7", 24)
	x := places.New(s)
	for at := 0; at <= len(s); at += 2 {
		for _, piece := range []string{"", "\U0001f1e8", "\r", "\u0301\n"} {
			to := min(at+at%3, len(s))
			held(t, b, x.Change(at, to, piece), s[:at]+piece+s[to:])
		}
	}
	held(t, b, x, s)
}

// TestP2 is that all who count runes, units and letters agree.
func TestP2(t *testing.T) {
	r := rand.New(rand.NewSource(1702))
	for range 2000 {
		s := someText(r, 30)
		x := places.New(s)
		if x.Len(api.ByUnit) != utf.Units(s) || x.Len(api.ByRune) != utf.Count(s) || x.Len(api.ByLetter) != grapheme.Count(s) || x.Len(api.ByByte) != len(s) {
			t.Fatalf("%q: %d, %d, %d", s, x.Len(api.ByUnit), x.Len(api.ByRune), x.Len(api.ByLetter))
		}
		for at := range utf.Each(s) {
			if x.To(api.ByUnit, at) != utf.Units(s[:at]) || x.To(api.ByRune, at) != utf.Count(s[:at]) {
				t.Fatalf("%q: at %d: %d, %d", s, at, x.To(api.ByUnit, at), x.To(api.ByRune, at))
			}
		}
		for n := range x.Len(api.ByLetter) + 1 {
			if x.From(api.ByLetter, n) != grapheme.Place(s, n) {
				t.Fatalf("%q: the letter number %d: %d", s, n, x.From(api.ByLetter, n))
			}
		}
	}
}

// TestP6 is that a text and its Clean form have as many lines, units, runes and letters, and these in the same rows and columns.
func TestP6(t *testing.T) {
	r := rand.New(rand.NewSource(1706))
	for range 2000 {
		s := someText(r, 30)
		x, y := places.New(s), places.New(utf.Clean(s))
		for _, by := range []int{api.ByUnit, api.ByRune, api.ByLetter} {
			if x.Len(by) != y.Len(by) {
				t.Fatalf("%q: by %d: %d, Clean %d", s, by, x.Len(by), y.Len(by))
			}
		}
		if x.Lines() != y.Lines() {
			t.Fatalf("%q: %d lines, Clean %d", s, x.Lines(), y.Lines())
		}
		for n := range x.Len(api.ByRune) + 1 {
			if got, want := x.Point(x.From(api.ByRune, n)), y.Point(y.From(api.ByRune, n)); got != want {
				t.Fatalf("%q: the rune number %d: %v, Clean %v", s, n, got, want)
			}
		}
	}
}

// TestP3 is that what a change brought is taken back by another one, and that places which are carried along keep what stands around them.
func TestP3(t *testing.T) {
	b := letters(t)
	r := rand.New(rand.NewSource(1703))
	for range 1500 {
		s, piece := someText(r, 12), someText(r, 3)
		from := r.Intn(len(s) + 1)
		to := from + r.Intn(len(s)-from+1)
		x := places.New(s)
		y := x.Change(from, to, piece)
		held(t, b, y.Change(from, from+len(piece), s[from:to]), s)
		for at := range len(s) + 1 {
			moved := places.Move(at, from, to, len(piece), false)
			switch {
			case at < from && y.Text()[:moved] != s[:at], at > to && y.Text()[moved:] != s[at:], at >= from && at <= to && y.Text()[:moved] != s[:from]+piece:
				t.Fatalf("%q to %q: %d is moved to %d", s, y.Text(), at, moved)
			}
		}
	}
}
