package width_test

import (
	"math/rand"
	"slices"
	"testing"

	"kerf/api"
	"kerf/utf"
	"kerf/width"
)

// together is P15.10 of two texts; false, if their letters do not stay, or if it says nothing of them.
func together(t *testing.T, x reading, s, u string, o api.Cells) bool {
	t.Helper()
	there := o
	there.Start = width.Text(s, o)
	if !slices.Equal(x.split(s+u), append(x.split(s), x.split(u)...)) || there.Start > api.MaxStart {
		return false
	}
	if got, want := width.Text(s+u, o), width.Text(u, there); got != want {
		t.Fatalf("%q and %q, %v: %d; want %d", s, u, o, got, want)
	}
	return true
}

// TestP15_10 has every two kinds, two texts of any runes and bytes, and some of which the letters do not stay.
func TestP15_10(t *testing.T) {
	x := plain(t)
	stay, not := 0, 0
	count := func(stays bool) {
		if stays {
			stay++
		} else {
			not++
		}
	}
	for _, s := range byKind {
		for _, u := range byKind {
			for _, o := range options {
				count(together(t, x, s, u, o))
			}
		}
	}
	r := rand.New(rand.NewSource(1510))
	for range 20000 {
		count(together(t, x, someText(r, 6), someText(r, 6), options[r.Intn(len(options))]))
	}
	if stay < 10000 || not < 1000 {
		t.Errorf("%d, %d", stay, not)
	}
	for _, y := range []struct {
		s, u         string
		whole, parts int
	}{
		{"\u00a9", "\ufe0f", 2, 1},
		{"a", "\u0903", 1, 2},
		{"\u1100", "\u1100", 2, 4},
		{"\U0001f600\u200d", "\U0001f600", 2, 4},
		{"\xe4\xb8", "\x80", 2, 3},
		{"\xc2", "\x85", 0, 2},
		{"e", "\u0301", 1, 1},
		{"ab\r", "\nc", 1, 1},
		{"\U0001f1e6", "\U0001f1e7", 2, 2},
	} {
		whole := width.Text(y.s+y.u, o8)
		parts := width.Text(y.u, by(1, 8, width.Text(y.s, o8)))
		if whole != y.whole || parts != y.parts || together(t, x, y.s, y.u, o8) {
			t.Errorf("%q and %q: %d, %d; want %d, %d", y.s, y.u, whole, parts, y.whole, y.parts)
		}
	}
	limit := by(1, 8, api.MaxStart-1)
	if !together(t, x, "a", "\tb", limit) || together(t, x, "ab", "c", limit) {
		t.Errorf("at the limit")
	}
}

// TestP15_11 is that what Cut tells fits.
func TestP15_11(t *testing.T) {
	r := rand.New(rand.NewSource(1511))
	for range 20000 {
		s, o := someText(r, 10), options[r.Intn(len(options))]
		cells := o.Start + r.Intn(30) - 5
		cut, column := width.Cut(s, cells, o)
		if column > max(cells, o.Start) || width.Text(cut, o) != column || width.Widest(cut, o) != column || s[:len(cut)] != cut {
			t.Fatalf("%q, %d, %v: %q, %d", s, cells, o, cut, column)
		}
	}
}

// TestP15_12 is that Plain has no tab at the beginning of a letter, and as many columns, if no rune is of the class Mark.
func TestP15_12(t *testing.T) {
	x := plain(t)
	marked, tabs := 0, 0
	each := func(s string, o api.Cells) {
		t.Helper()
		got := width.Plain(s, o)
		for _, letter := range x.split(got) {
			if letter[0] == '\t' {
				t.Fatalf("%q, %v: %q", s, o, got)
			}
		}
		if got != s {
			tabs++
		}
		if slices.ContainsFunc([]rune(s), func(r rune) bool { return x.isOf(r, "Mark") }) {
			marked++
			return
		}
		if width.Text(got, o) != width.Text(s, o) {
			t.Fatalf("%q, %v: %q has %d, not %d", s, o, got, width.Text(got, o), width.Text(s, o))
		}
	}
	for _, ahead := range byKind {
		for _, behind := range byKind {
			for _, o := range options {
				each(ahead+"\t"+behind, o)
				each(ahead+"\t\t"+behind+"\t", o)
			}
		}
	}
	r := rand.New(rand.NewSource(1512))
	for range 20000 {
		each(someText(r, 10), options[r.Intn(len(options))])
	}
	if marked < 500 || tabs < 5000 {
		t.Errorf("%d, %d", marked, tabs)
	}
	const s = "\t\u0903" // the mark stands with the last blank then
	if width.Text(s, o8) != 9 || width.Text(width.Plain(s, o8), o8) != 8 {
		t.Errorf("a mark behind a tab: %d, %d", width.Text(s, o8), width.Text(width.Plain(s, o8), o8))
	}
}

// TestP15_4Clean is that the Clean form of a text has as many cells (P6 of the whole).
func TestP15_4Clean(t *testing.T) {
	r := rand.New(rand.NewSource(156))
	for range 10000 {
		s := someText(r, 12)
		clean := utf.Clean(s)
		if width.Text(s, o8) != width.Text(clean, o8) || width.Widest(s, o8) != width.Widest(clean, o8) {
			t.Fatalf("%q: %d; %q: %d", s, width.Text(s, o8), clean, width.Text(clean, o8))
		}
	}
}
