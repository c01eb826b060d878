package rope_test

import (
	"math"
	"math/rand"
	"strings"
	"testing"
)

// TestP20_4 has places by hand.
func TestP20_4(t *testing.T) {
	r := made(t, "a\U0001f600b\n\x82\n")
	for _, c := range []struct{ at, runes, units, breaks int }{
		{math.MinInt, 0, 0, 0},
		{-1, 0, 0, 0},
		{0, 0, 0, 0},
		{1, 1, 1, 0},
		{2, 1, 1, 0}, // within a rune, which is not counted
		{3, 1, 1, 0},
		{4, 1, 1, 0},
		{5, 2, 3, 0},
		{6, 3, 4, 0},
		{7, 4, 5, 1},
		{8, 5, 6, 1},
		{9, 6, 7, 2},
		{10, 6, 7, 2},
		{math.MaxInt, 6, 7, 2},
	} {
		if n := r.RuneOf(c.at); n != c.runes {
			t.Error("RuneOf", c.at, n)
		}
		if n := r.UnitOf(c.at); n != c.units {
			t.Error("UnitOf", c.at, n)
		}
		if n := r.LineOf(c.at); n != c.breaks {
			t.Error("LineOf", c.at, n)
		}
	}
}

// TestP20_4Numbers has numbers of runes, units and lines by hand.
func TestP20_4Numbers(t *testing.T) {
	r := made(t, "a\U0001f600b\n\x82\n")
	for _, c := range []struct {
		n, rune, unit, line int // -1: there is none
	}{
		{math.MinInt, -1, -1, -1},
		{-1, -1, -1, -1},
		{0, 0, 0, 0},
		{1, 1, 1, 7},
		{2, 5, -1, 9}, // a second unit
		{3, 6, 5, -1},
		{4, 7, 6, -1},
		{5, 8, 7, -1},
		{6, 9, 8, -1},
		{7, -1, 9, -1},
		{8, -1, -1, -1},
		{math.MaxInt, -1, -1, -1},
	} {
		at, ok := r.AtRune(c.n)
		same(t, "AtRune", c.n, at, ok, c.rune)
		at, ok = r.AtUnit(c.n)
		same(t, "AtUnit", c.n, at, ok, c.unit)
		at, ok = r.AtLine(c.n)
		same(t, "AtLine", c.n, at, ok, c.line)
	}
}

func same(t *testing.T, name string, n, at int, ok bool, want int) {
	t.Helper()
	if want < 0 && (at != 0 || ok) || want >= 0 && (at != want || !ok) {
		t.Errorf("%s(%d): %d %v, not %d", name, n, at, ok, want)
	}
}

// TestP20_4Lines has the lines of texts with and without a last end.
func TestP20_4Lines(t *testing.T) {
	for _, c := range []struct {
		s     string
		lines []int
	}{
		{"", []int{0}},
		{"a", []int{0}},
		{"\n", []int{0, 1}},
		{"a\nb\n", []int{0, 2, 4}},
		{"a\nb", []int{0, 2}},
		{"\n\n\n", []int{0, 1, 2, 3}},
		{"a\r\nb\rc\u2028", []int{0, 3}},
	} {
		r := made(t, c.s)
		for n, want := range c.lines {
			at, ok := r.AtLine(n)
			same(t, c.s, n, at, ok, want)
		}
		at, ok := r.AtLine(len(c.lines))
		same(t, c.s, len(c.lines), at, ok, -1)
	}
}

// TestP20_4Long has texts of several pieces, however they were made, at all places and numbers.
func TestP20_4Long(t *testing.T) {
	source := rand.New(rand.NewSource(204))
	for _, part := range []string{"a", "\n", "\U0001f600", "\u20ac\n", "\x82", "\xf0\x9f\x98", "a\nb\U0001f600", "\xe2\x82\xac\x82"} {
		s := strings.Repeat(part, 1200/len(part))
		held(t, made(t, s), s)
		held(t, bytewise(t, s, false), s)
		held(t, bytewise(t, s, true), s)
	}
	for range 12 {
		s := someText(source, 700)
		r := made(t, s)
		for range 25 {
			r, s = changed(t, r, s, source)
		}
		held(t, r, s)
	}
}

// TestExamples are those of the chapter.
func TestExamples(t *testing.T) {
	held(t, joined(t, made(t, "\xe2"), made(t, "\x82\xac")), "\u20ac")
	r := made(t, "a\U0001f600b")
	if n, m := r.Runes(), r.Units(); n != 3 || m != 4 {
		t.Error(n, m)
	}
	if at, ok := r.AtUnit(2); at != 0 || ok {
		t.Error(at, ok)
	}
	if at, ok := r.AtUnit(3); at != 5 || !ok {
		t.Error(at, ok)
	}
	if a, b, c := r.UnitOf(5), r.UnitOf(3), r.RuneOf(3); a != 3 || b != 1 || c != 1 {
		t.Error(a, b, c)
	}
	r = made(t, "a\nb\n")
	if at, ok := r.AtLine(2); at != 4 || !ok || r.LineOf(2) != 1 || r.Breaks() != 2 {
		t.Error(at, ok)
	}
	if at, ok := r.AtLine(3); at != 0 || ok {
		t.Error(at, ok)
	}
}
