package fold_test

import (
	"testing"

	"kerf/api"
	"kerf/fold"
	"kerf/utf"
)

// TestP19_1Examples has letters by hand.
func TestP19_1Examples(t *testing.T) {
	for _, c := range []struct {
		r, small, great rune
		cased           bool
	}{
		{'A', 'a', 'A', true}, {'a', 'a', 'A', true}, {'Z', 'z', 'Z', true}, {'z', 'z', 'Z', true},
		{'@', '@', '@', false}, {'[', '[', '[', false}, {'`', '`', '`', false}, {'{', '{', '{', false}, {'1', '1', '1', false}, {0, 0, 0, false},
		{0xc0, 0xe0, 0xc0, true}, {0xd6, 0xf6, 0xd6, true}, {0xd7, 0xd7, 0xd7, false}, {0xf7, 0xf7, 0xf7, false}, {0xd8, 0xf8, 0xd8, true}, {0xfe, 0xfe, 0xde, true},
		{0x100, 0x101, 0x100, true}, {0x101, 0x101, 0x100, true}, {0x102, 0x103, 0x102, true}, {0x12e, 0x12f, 0x12e, true}, {0x12f, 0x12f, 0x12e, true}, {0x138, 0x138, 0x138, false},
		{0x178, 0xff, 0x178, true}, {0xff, 0xff, 0x178, true}, {0x17d, 0x17e, 0x17d, true}, {0x17e, 0x17e, 0x17d, true},
		{0x386, 0x3ac, 0x386, true}, {0x38c, 0x3cc, 0x38c, true}, {0x3cc, 0x3cc, 0x38c, true}, {0x3a2, 0x3a2, 0x3a2, false}, {0x3a3, 0x3c3, 0x3a3, true}, {0x3c3, 0x3c3, 0x3a3, true},
		{0x400, 0x450, 0x400, true}, {0x44f, 0x44f, 0x42f, true}, {0x10400, 0x10428, 0x10400, true}, {0x1044f, 0x1044f, 0x10427, true}, {0x10450, 0x10450, 0x10450, false},
		// cased by their special forms alone: CasePairs has no letters for them
		{0xdf, 0xdf, 0xdf, true}, {0x130, 0x130, 0x130, true}, {0x131, 0x131, 0x131, true}, {0x1c4, 0x1c4, 0x1c4, true}, {0x3c2, 0x3c2, 0x3c2, true}, {0x1e9e, 0x1e9e, 0x1e9e, true}, {0xfb03, 0xfb03, 0xfb03, true},
		// what special forms are made of is not named by that
		{0x307, 0x307, 0x307, false}, {0x2bc, 0x2bc, 0x2bc, false}, {0x30c, 0x30c, 0x30c, false}, {0x301, 0x301, 0x301, false},
		{0xfb04, 0xfb04, 0xfb04, false}, {0xaa, 0xaa, 0xaa, false}, {0x4e00, 0x4e00, 0x4e00, false}, {api.Instead, api.Instead, api.Instead, false}, {api.MaxRune, api.MaxRune, api.MaxRune, false},
	} {
		if a, b := fold.Pair(c.r); a != c.small || b != c.great {
			t.Errorf("%x: %x %x; want %x %x", c.r, a, b, c.small, c.great)
		}
		if got := fold.Cased(c.r); got != c.cased {
			t.Errorf("%x: Cased %v", c.r, got)
		}
	}
}

// TestP19_1Lines has every line of CasePairs at both ends, between the steps, and beside it.
func TestP19_1Lines(t *testing.T) {
	x := bookOf(t)
	for _, line := range x.lines {
		for _, r := range []int{line.first, line.last} {
			g, s := rune(r), rune(r+line.delta)
			for _, c := range []rune{g, s} {
				if a, b := fold.Pair(c); a != s || b != g || !fold.Cased(c) {
					t.Errorf("%d: %d %d; want %d %d", c, a, b, s, g)
				}
			}
		}
		for _, from := range []int{line.first, line.first + line.delta} {
			to := from + line.last - line.first
			for r := from - 2; r <= to+2; r++ {
				heldLetter(t, x, rune(r))
			}
		}
	}
	if len(x.lines) != 23 || len(x.smalls) != 411 || len(x.greats) != 411 {
		t.Errorf("%d lines, %d great, %d small", len(x.lines), len(x.smalls), len(x.greats))
	}
}

func heldLetter(t *testing.T, x *book, r rune) {
	t.Helper()
	a, b := fold.Pair(r)
	if c, d := x.pair(r); a != c || b != d {
		t.Errorf("%x: %x %x; want %x %x", r, a, b, c, d)
	}
	if got := fold.Cased(r); got != x.cased(r) {
		t.Errorf("%x: Cased %v", r, got)
	}
}

// TestP19_1Special has every rune that has special forms, those of which the forms are made, and those beside them.
func TestP19_1Special(t *testing.T) {
	x := bookOf(t)
	for _, r := range x.named {
		if a, b := fold.Pair(r); a != r || b != r || !fold.Cased(r) {
			t.Errorf("%x: %x %x, Cased %v", r, a, b, fold.Cased(r))
		}
		heldLetter(t, x, r-1)
		heldLetter(t, x, r+1)
		for _, list := range x.specials[r] {
			for _, part := range list {
				heldLetter(t, x, part)
			}
		}
	}
	if len(x.named) != 17 {
		t.Errorf("%d lines", len(x.named))
	}
}

// TestP19_1All has all runes up to behind the last line, and some above.
func TestP19_1All(t *testing.T) {
	x := bookOf(t)
	many := 0
	for r := rune(0); r < 0x10600; r++ {
		heldLetter(t, x, r)
		if fold.Cased(r) {
			many++
		}
	}
	if many != 2*411+17 {
		t.Errorf("%d are cased", many)
	}
	for r := rune(0x10600); r <= api.MaxRune; r += 101 {
		heldLetter(t, x, r)
	}
}

// TestP19_1NoRunes has numbers that are no runes: they are nobody's letters.
func TestP19_1NoRunes(t *testing.T) {
	for _, r := range noRunes {
		if utf.Width(r) != 0 {
			t.Fatalf("%x is a rune", r)
		}
		if a, b := fold.Pair(r); a != r || b != r || fold.Cased(r) {
			t.Errorf("%x: %x %x, Cased %v", r, a, b, fold.Cased(r))
		}
	}
	for r := rune(0xd800); r <= 0xdfff; r++ {
		if a, b := fold.Pair(r); a != r || b != r || fold.Cased(r) {
			t.Errorf("%x: %x %x, Cased %v", r, a, b, fold.Cased(r))
		}
	}
}
