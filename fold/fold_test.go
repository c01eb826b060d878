package fold_test

import (
	"math/rand"
	"slices"
	"strings"
	"testing"

	"kerf/fold"
	"kerf/utf"
)

// heldForms holds all forms of a text against the plain reading.
func heldForms(t *testing.T, x *book, s string) {
	t.Helper()
	for _, c := range []struct{ name, got, want string }{
		{"Small", fold.Small(s), x.small(s)},
		{"Great", fold.Great(s), x.text(s, great)},
		{"Title", fold.Title(s), x.title(s)},
		{"Fold", fold.Fold(s), x.text(s, folded)},
		{"Turned", fold.Turned(s), x.turned(s)},
	} {
		if c.got != c.want {
			t.Fatalf("%s of %+q: %+q; want %+q", c.name, s, c.got, c.want)
		}
	}
	got, at := fold.Folded(s)
	if got != x.text(s, folded) || !slices.Equal(at, x.places(s)) {
		t.Fatalf("Folded of %+q: %+q %v; want %v", s, got, at, x.places(s))
	}
}

// TestFormsExamples has texts by hand (P19.2, P19.3, P19.4, P19.6).
func TestFormsExamples(t *testing.T) {
	for _, c := range []struct{ s, small, great, title, folded, turned string }{
		{"", "", "", "", "", ""},
		{"a", "a", "A", "A", "a", "A"},
		{"Hello, wOrld 3x!", "hello, world 3x!", "HELLO, WORLD 3X!", "Hello, World 3X!", "hello, world 3x!", "hELLO, WoRLD 3X!"},
		{" 12 \u4e00\n", " 12 \u4e00\n", " 12 \u4e00\n", " 12 \u4e00\n", " 12 \u4e00\n", " 12 \u4e00\n"},
		{"stra\u00dfe", "stra\u00dfe", "STRASSE", "Stra\u00dfe", "strasse", "STRA\u00dfE"},
		{"aB\u00df", "ab\u00df", "ABSS", "Ab\u00df", "abss", "Ab\u00df"},
		{"\u00c9\u00e8\u0178\u00ff", "\u00e9\u00e8\u00ff\u00ff", "\u00c9\u00c8\u0178\u0178", "\u00c9\u00e8\u00ff\u00ff", "\u00e9\u00e8\u00ff\u00ff", "\u00e9\u00c8\u00ff\u0178"},
		{"\u0416\u0451\U00010400", "\u0436\u0451\U00010428", "\u0416\u0401\U00010400", "\u0416\u0451\U00010400", "\u0436\u0451\U00010428", "\u0436\u0401\U00010428"}, // the last one is a piece by itself
		// faults stay: of one byte, of several, cut off at the end, beside what grows and shrinks
		{"A\xffB", "a\xffb", "A\xffB", "A\xffB", "a\xffb", "a\xffb"},
		{"\xff", "\xff", "\xff", "\xff", "\xff", "\xff"},
		{"a\xe2\x82", "a\xe2\x82", "A\xe2\x82", "A\xe2\x82", "a\xe2\x82", "A\xe2\x82"},
		{"\xed\xa0\x80A\xc0\x80", "\xed\xa0\x80a\xc0\x80", "\xed\xa0\x80A\xc0\x80", "\xed\xa0\x80A\xc0\x80", "\xed\xa0\x80a\xc0\x80", "\xed\xa0\x80a\xc0\x80"},
		{"\xc3\u00df\x9f", "\xc3\u00df\x9f", "\xc3SS\x9f", "\xc3Ss\x9f", "\xc3ss\x9f", "\xc3\u00df\x9f"},
		{"\xe1\xba\u1e9e\xf0\x90\x90", "\xe1\xba\u00df\xf0\x90\x90", "\xe1\xba\u1e9e\xf0\x90\x90", "\xe1\xba\u1e9e\xf0\x90\x90", "\xe1\xbass\xf0\x90\x90", "\xe1\xba\u1e9e\xf0\x90\x90"},
		{"\xef\ufffd\xef\xbf", "\xef\ufffd\xef\xbf", "\xef\ufffd\xef\xbf", "\xef\ufffd\xef\xbf", "\xef\ufffd\xef\xbf", "\xef\ufffd\xef\xbf"},
		{"Ab\xce", "ab\xce", "AB\xce", "Ab\xce", "ab\xce", "aB\xce"},
	} {
		for _, d := range []struct{ name, got, want string }{
			{"Small", fold.Small(c.s), c.small}, {"Great", fold.Great(c.s), c.great}, {"Title", fold.Title(c.s), c.title}, {"Fold", fold.Fold(c.s), c.folded}, {"Turned", fold.Turned(c.s), c.turned},
		} {
			if d.got != d.want {
				t.Errorf("%s of %+q: %+q; want %+q", d.name, c.s, d.got, d.want)
			}
		}
	}
}

// TestFormsSpecial has the four forms of every rune of CaseSpecial, by itself and behind others (P19.2, P19.3, P19.4, P19.6).
func TestFormsSpecial(t *testing.T) {
	x := bookOf(t)
	all := []struct {
		r                           rune
		small, great, title, folded string
	}{
		{0xdf, "\u00df", "SS", "Ss", "ss"},
		{0x130, "i\u0307", "\u0130", "\u0130", "i\u0307"},
		{0x131, "\u0131", "I", "I", "\u0131"},
		{0x149, "\u0149", "\u02bcN", "\u02bcN", "\u02bcn"},
		{0x17f, "\u017f", "S", "S", "s"},
		{0x1c4, "\u01c6", "\u01c4", "\u01c5", "\u01c6"},
		{0x1c5, "\u01c6", "\u01c4", "\u01c5", "\u01c6"},
		{0x1c6, "\u01c6", "\u01c4", "\u01c5", "\u01c6"},
		{0x1f0, "\u01f0", "J\u030c", "J\u030c", "j\u030c"},
		{0x390, "\u0390", "\u0399\u0308\u0301", "\u0399\u0308\u0301", "\u03b9\u0308\u0301"},
		{0x3c2, "\u03c2", "\u03a3", "\u03a3", "\u03c3"},
		{0x587, "\u0587", "\u0535\u0552", "\u0535\u0582", "\u0565\u0582"},
		{0x1e9e, "\u00df", "\u1e9e", "\u1e9e", "ss"},
		{0xfb00, "\ufb00", "FF", "Ff", "ff"},
		{0xfb01, "\ufb01", "FI", "Fi", "fi"},
		{0xfb02, "\ufb02", "FL", "Fl", "fl"},
		{0xfb03, "\ufb03", "FFI", "Ffi", "ffi"},
	}
	if len(all) != len(x.named) {
		t.Fatalf("%d of %d lines", len(all), len(x.named))
	}
	for i, c := range all {
		s := utf.Encode(c.r)
		if c.r != x.named[i] || fold.Turned(s) != s {
			t.Errorf("%x: %+q", c.r, fold.Turned(s))
		}
		for _, d := range []struct{ name, got, want string }{
			{"Small", fold.Small(s), c.small}, {"Great", fold.Great(s), c.great}, {"Title", fold.Title(s), c.title}, {"Fold", fold.Fold(s), c.folded},
		} {
			if d.got != d.want {
				t.Errorf("%s of %x: %+q; want %+q", d.name, c.r, d.got, d.want)
			}
		}
		if got := fold.Title("X" + s + " " + s + "Y"); c.r != 0x587 && got != "X"+c.small+" "+c.title+"y" { // to chapter 12 587 is no letter
			t.Errorf("Title of %x among others: %+q", c.r, got)
		}
		for _, other := range all {
			heldForms(t, x, s+utf.Encode(other.r))
		}
	}
}

// TestFormsLetters has every letter of CasePairs, and those beside them (P19.2, P19.3, P19.4, P19.6).
func TestFormsLetters(t *testing.T) {
	x := bookOf(t)
	for g, s := range x.smalls {
		one, two := utf.Encode(g), utf.Encode(s)
		for _, both := range []string{one, two} {
			if fold.Small(both) != two || fold.Great(both) != one || fold.Title(both) != one || fold.Fold(both) != two {
				t.Errorf("%+q: %+q %+q %+q %+q", both, fold.Small(both), fold.Great(both), fold.Title(both), fold.Fold(both))
			}
		}
		if fold.Turned(one+two) != two+one {
			t.Errorf("%+q: %+q", one+two, fold.Turned(one+two))
		}
		for r := min(g, s) - 1; r <= max(g, s)+1; r += max(g, s) - min(g, s) + 2 {
			heldForms(t, x, utf.Encode(r))
		}
	}
}

// TestFormsAll has all short texts of some few parts (P19.2, P19.3, P19.4, P19.6).
func TestFormsAll(t *testing.T) {
	x := bookOf(t)
	for _, few := range [][]string{
		{"\u03a3", "\u0391", "'", "\xff", " "},
		{"\u03a3", "\u03c2", ".", "\u0301", "1"},
		{"\u00df", "S", "\u017f", "\xc3", "\u1e9e"},
		{"a", "B", ":", "1", "\u01c5"},
	} {
		for long := range 6 {
			for s := range rows(long, few...) {
				heldForms(t, x, s)
			}
		}
	}
}

// TestFormsSome has texts of many parts, and of any bytes (P19.2, P19.3, P19.4, P19.6).
func TestFormsSome(t *testing.T) {
	x := bookOf(t)
	r := rand.New(rand.NewSource(19))
	for range 6000 {
		heldForms(t, x, someText(r, 14))
	}
	for range 2000 {
		heldForms(t, x, someBytes(r, 12))
	}
}

// TestFormsLong has long texts, with many sigmas and much that is passed over (P19.2, P19.3, P19.4).
func TestFormsLong(t *testing.T) {
	const many = 50000
	dots := strings.Repeat("\u0301.", many)
	if got := fold.Small("\u0391" + dots + "\u03a3" + dots); got != "\u03b1"+dots+"\u03c2"+dots {
		t.Error("passed over")
	}
	if got := fold.Small("\u0391" + dots + "\u03a3" + dots + "a"); got != "\u03b1"+dots+"\u03c3"+dots+"a" {
		t.Error("passed over, and cased")
	}
	if got := fold.Small(strings.Repeat("\u03a3'", many)); got != strings.Repeat("\u03c3'", many-1)+"\u03c2'" {
		t.Error("sigmas")
	}
	if got := fold.Title(strings.Repeat("\u039f\u03a3 ", many)); got != strings.Repeat("\u039f\u03c2 ", many) {
		t.Error("words")
	}
	s, at := fold.Folded(strings.Repeat("\u0390\xff", many))
	if s != strings.Repeat("\u03b9\u0308\u0301\xff", many) || len(at) != 7*many || at[7*many-1] != 3*many-1 || at[7*many-2] != 3*many-3 {
		t.Error("Folded")
	}
}
