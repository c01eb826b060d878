package fold_test

import (
	"testing"

	"kerf/fold"
	"kerf/utf"
)

// TestP19_2Sigma has sigmas by hand: at the front, at the end, alone, within a word, several; faults beside them, blanks between.
func TestP19_2Sigma(t *testing.T) {
	for s, want := range map[string]string{
		"\u03a3":                    "\u03c3", // alone: nothing stands ahead
		"\u03a3\u0391":              "\u03c3\u03b1",
		"\u0391\u03a3":              "\u03b1\u03c2",
		"\u0391\u03a3\u0391":        "\u03b1\u03c3\u03b1",
		"\u039f\u03a3 \u03a3\u0391": "\u03bf\u03c2 \u03c3\u03b1",
		"\u0391 \u03a3":             "\u03b1 \u03c3",
		"\u0391\u03a3 \u0391":       "\u03b1\u03c2 \u03b1",
		"\u0391\u03a3 ' \u0391":     "\u03b1\u03c2 ' \u03b1",
		"\u03a3\u03a3":              "\u03c3\u03c2",
		"\u03a3\u03a3\u03a3":        "\u03c3\u03c3\u03c2",
		"\u03a3 \u03a3\u03a3":       "\u03c3 \u03c3\u03c2",
		"\u03a3'\u03a3":             "\u03c3'\u03c2",
		"\u03a3'":                   "\u03c3'",
		"'\u03a3":                   "'\u03c3",
		"1\u03a3":                   "1\u03c3",
		"\u03911\u03a3":             "\u03b11\u03c3",
		"\u0391\u03a31\u0391":       "\u03b1\u03c21\u03b1",
		// cased ahead of it, or behind: great, small, by special forms, of any writing
		"a\u03a3":          "a\u03c2",
		"Z\u03a3":          "z\u03c2",
		"\u00df\u03a3":     "\u00df\u03c2",
		"\u0130\u03a3":     "i\u0307\u03c2",
		"\u03c2\u03a3":     "\u03c2\u03c2",
		"\u03c3\u03a3":     "\u03c3\u03c2",
		"\ufb01\u03a3":     "\ufb01\u03c2",
		"\U0001044f\u03a3": "\U0001044f\u03c2",
		"\u00aa\u03a3":     "\u00aa\u03c3", // that one is not
		"\u4e00\u03a3":     "\u4e00\u03c3",
		"a\u03a3\u0149":    "a\u03c3\u0149",
		"a\u03a3\u1e9e":    "a\u03c3\u00df",
		"a\u03a3\u00aa":    "a\u03c2\u00aa",
		"a\u03a3\u4e00":    "a\u03c2\u4e00",
		// the small ones stay what they are
		"\u0391\u03c3":       "\u03b1\u03c3",
		"\u0391\u03c2\u0391": "\u03b1\u03c2\u03b1",
		// faults are not cased, and not passed over
		"\xff\u03a3":                   "\xff\u03c3",
		"\u0391\xff\u03a3":             "\u03b1\xff\u03c3",
		"\u0391'\xff'\u03a3":           "\u03b1'\xff'\u03c3",
		"\u0391\u03a3\xff":             "\u03b1\u03c2\xff",
		"\u0391\u03a3\xff\u0391":       "\u03b1\u03c2\xff\u03b1",
		"\u0391\u03a3'\xff'\u0391":     "\u03b1\u03c2'\xff'\u03b1",
		"\u0391\u03a3\xce":             "\u03b1\u03c2\xce",
		"\xce\u03a3":                   "\xce\u03c3",
		"\u0391\xe2\x82\u03a3\xe2\x82": "\u03b1\xe2\x82\u03c3\xe2\x82",
		"\u0391\ufffd\u03a3":           "\u03b1\ufffd\u03c3",
		"\u0391\u03a3\ufffd\u0391":     "\u03b1\u03c2\ufffd\u03b1",
	} {
		if got := fold.Small(s); got != want {
			t.Errorf("%+q: %+q; want %+q", s, got, want)
		}
	}
}

// TestP19_2Passed has every rune that is passed over, ahead of a sigma and behind it.
func TestP19_2Passed(t *testing.T) {
	x := bookOf(t)
	for _, r := range []rune{0x300, 0x36f, 0x483, 0x591, 0x93c, 0x200c, 0x20d0, 0xfe0f, 0x1f3fb, 0xe0020, 0xe007f, 0x200d, 0x903, 0x93e, 0xe33, 0x27, 0x2e, 0x3a, 0xb7, 0x2019} {
		if x.passed[r] != 1 {
			t.Errorf("%x is not passed over", r)
		}
	}
	for r := range x.passed {
		p := utf.Encode(r)
		for s, want := range map[string]string{
			p + "\u03a3":                                       p + "\u03c3",
			"\u0391" + p + "\u03a3":                            "\u03b1" + p + "\u03c2",
			"\u0391\u03a3" + p:                                 "\u03b1\u03c2" + p,
			"\u0391\u03a3" + p + "\u0391":                      "\u03b1\u03c3" + p + "\u03b1",
			"\u0391\u03a3" + p + "1\u0391":                     "\u03b1\u03c2" + p + "1\u03b1",
			"\u03911" + p + "\u03a3":                           "\u03b11" + p + "\u03c3",
			"\u0391'" + p + "\u0301" + p + "\u03a3." + p + ":": "\u03b1'" + p + "\u0301" + p + "\u03c2." + p + ":",
			"\u0391\u200d" + p + "\u03a3\u2019" + p + p + "b":  "\u03b1\u200d" + p + "\u03c3\u2019" + p + p + "b",
		} {
			if got := fold.Small(s); got != want {
				t.Errorf("%+q: %+q; want %+q", s, got, want)
			}
		}
	}
}

// TestP19_2NotPassed has runes beside those that are passed over, and others that stand between words.
func TestP19_2NotPassed(t *testing.T) {
	x := bookOf(t)
	others := []rune{0x20, 0x26, 0x28, 0x2c, 0x2d, 0x2f, 0x39, 0x3b, 0x5f, 0x60, 0xa8, 0xad, 0xb4, 0xb6, 0xb8, 0x2ff, 0x200b, 0x200e, 0x2018, 0x201a, 0x2024, 0x2027, 0xfeff, 0x600, 0x1f1e6, 0xa, 0xd, 0}
	for r := range x.passed {
		others = append(others, r-1, r+1)
	}
	for _, r := range others {
		if x.passed[r] == 1 || x.cased(r) {
			continue
		}
		p := utf.Encode(r)
		for s, want := range map[string]string{
			"\u0391" + p + "\u03a3":       "\u03b1" + p + "\u03c3",
			"\u0391\u03a3" + p + "\u0391": "\u03b1\u03c2" + p + "\u03b1",
		} {
			if got := fold.Small(s); got != want {
				t.Errorf("%+q: %+q; want %+q", s, got, want)
			}
		}
	}
}

// TestP19_3 has titles by hand.
func TestP19_3(t *testing.T) {
	for s, want := range map[string]string{
		"":                  "",
		"ab cD":             "Ab Cd",
		"\ufb01x":           "Fix",
		"the END of it":     "The End Of It",
		"can't  STOP":       "Can't  Stop",
		"a-b/c":             "A-B/C",
		"one\r\ntwo\nTHREE": "One\r\nTwo\nThree",
		// words whose first rune is not cased, and words with none that is
		"3ab 4TH x2Y":      "3Ab 4Th X2y",
		"\u00aaBc":         "\u00aaBc",
		"'tis (OLD)":       "'Tis (Old)",
		"\u0301ab":         "\u0301Ab",
		"12 \u4e00 -- 3.5": "12 \u4e00 -- 3.5",
		// title forms of one rune and of several
		"\u01c6\u01c6 \u01c4\u01c4 \u01c5\u01c5": "\u01c5\u01c6 \u01c5\u01c6 \u01c5\u01c6",
		"\u00dfA\u00df \u0149X":                  "Ssa\u00df \u02bcNx",
		"\ufb03N \u0587\u0587":                   "Ffin \u0535\u0582\u0535\u0582", // to chapter 12 these are no letters: each is a piece by itself
		"\u0131I \u0130I":                        "Ii \u0130i",
		"\u0390\u0391":                           "\u0399\u0308\u0301\u03b1",
		// sigmas: the first is titled, the others are final where they are so in the whole
		"\u0391\u03a3 \u03a3\u0391 \u0391\u03a3\u0391 \u03a3": "\u0391\u03c2 \u03a3\u03b1 \u0391\u03c3\u03b1 \u03a3",
		"\u03c3\u03a3 \u03c2\u03c2":                           "\u03a3\u03c2 \u03a3\u03c2",
		"\u0391\u03a3..\u0392":                                "\u0391\u03c3..\u0392",
		"\u0391\u03a3. \u0392":                                "\u0391\u03c2. \u0392",
		"\u0391..\u03a3":                                      "\u0391..\u03a3",
		"\u03911\u03a3":                                       "\u03911\u03c3",
		// faults stay, and part words
		"ab\xffcd":           "Ab\xffCd",
		"\xe2\x82aB\xc3":     "\xe2\x82Ab\xc3",
		"A\u03a3\xffa\u03a3": "A\u03c2\xffA\u03c2",
	} {
		if got := fold.Title(s); got != want {
			t.Errorf("%+q: %+q; want %+q", s, got, want)
		}
	}
}

// TestP19_6 has texts turned by hand.
func TestP19_6(t *testing.T) {
	for s, want := range map[string]string{
		"":                   "",
		"aB\u00df":           "Ab\u00df",
		"\u03a3\u03c3\u03c2": "\u03c3\u03a3\u03c2",
		"\u0391\u03a3":       "\u03b1\u03c3",
		"\u0178\u00ff":       "\u00ff\u0178",
		"\u0130\u0131\u017f\u01c4\u01c5\u01c6\u1e9e\ufb00": "\u0130\u0131\u017f\u01c4\u01c5\u01c6\u1e9e\ufb00",
		"1 \u4e00\u0301\n":         "1 \u4e00\u0301\n",
		"a\xffB\xe2\x82":           "A\xffb\xe2\x82",
		"\uff21\uff5a\u2160\u217f": "\uff41\uff3a\u2170\u216f",
		"\ufffd\xef\xbf":           "\ufffd\xef\xbf",
	} {
		if got := fold.Turned(s); got != want {
			t.Errorf("%+q: %+q; want %+q", s, got, want)
		}
	}
}
