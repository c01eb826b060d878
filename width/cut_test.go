package width_test

import (
	"math"
	"strings"
	"testing"

	"kerf/api"
	"kerf/width"
)

// TestP15_5 has Cut by hand.
func TestP15_5(t *testing.T) {
	for _, x := range []struct {
		s      string
		cells  int
		o      api.Cells
		want   string
		column int
	}{
		{"a\u4e00b", 2, o8, "a", 1},
		{"a\u4e00b", -1, o8, "", 0},
		{"a\u4e00b", 0, o8, "", 0},
		{"a\u4e00b", 1, o8, "a", 1},
		{"a\u4e00b", 3, o8, "a\u4e00", 3},
		{"a\u4e00b", 4, o8, "a\u4e00b", 4},
		{"a\u4e00b", 5, o8, "a\u4e00b", 4},
		{"a\u4e00b", math.MinInt, o8, "", 0},
		{"a\u4e00b", math.MaxInt, o8, "a\u4e00b", 4},
		{"", 3, o8, "", 0},
		{"", 3, by(1, 8, 5), "", 5},
		{"", math.MinInt, by(1, 8, api.MaxStart), "", api.MaxStart},
		{"ab", 4, by(1, 8, 5), "", 5},
		{"ab", 5, by(1, 8, 5), "", 5},
		{"ab", 6, by(1, 8, 5), "a", 6},
		{"\u0301ab", 4, by(1, 8, 5), "", 5}, // above cells already, though the first letter has none
		{"\u0301ab", 5, by(1, 8, 5), "\u0301", 5},
		{"e\u0301x", 1, o8, "e\u0301", 1},
		{"ab\u200b\u200bc", 2, o8, "ab\u200b\u200b", 2}, // the longest one
		{"ab\ncd", 9, o8, "ab", 2},
		{"ab\ncd", 1, o8, "a", 1},
		{"ab\r\ncd", 9, o8, "ab", 2},
		{"\ncd", 9, o8, "", 0},
		{"\u2028cd", 9, by(1, 8, 4), "", 4},
		{"a\tb", 7, o8, "a", 1},
		{"a\tb", 8, o8, "a\t", 8},
		{"a\tb", 9, o8, "a\tb", 9},
		{"\t", 8, by(1, 8, 8), "", 8},
		{"\t", 16, by(1, 8, 8), "\t", 16},
		{"\t\t", 2, by(1, 1, 0), "\t\t", 2},
		{"\xffa\xe2\x80", 3, o8, "\xffa\xe2", 3},
		{"\xffa\xe2\x80", 9, o8, "\xffa\xe2\x80", 4},
		{"\U0001f1e6\U0001f1e7\U0001f1e8", 2, o8, "\U0001f1e6\U0001f1e7", 2},
		{"\U0001f1e6\U0001f1e7\U0001f1e8", 1, o8, "", 0},
		{"\u03b1\u03b1", 3, by(2, 8, 0), "\u03b1", 2},
	} {
		if got, column := width.Cut(x.s, x.cells, x.o); got != x.want || column != x.column {
			t.Errorf("%q, %d, %v: %q, %d; want %q, %d", x.s, x.cells, x.o, got, column, x.want, x.column)
		}
	}
}

// TestP15_6 has Short by hand: tails that are empty, do not fit, have tabs, line ends, marks at their beginning.
func TestP15_6(t *testing.T) {
	for _, x := range []struct {
		s     string
		cells int
		tail  string
		o     api.Cells
		want  string
	}{
		{"abcdef", 4, "..", o8, "ab.."},
		{"abc", 1, "..", o8, "a"},
		{"abc", 3, "..", o8, "abc"},
		{"abc", 2, "..", o8, ".."},
		{"abc", 0, "..", o8, ""},
		{"abc", -1, "..", o8, ""},
		{"abc", math.MinInt, "..", o8, ""},
		{"abc", math.MinInt, "\t.", by(1, 8, 3), ""},
		{"abc", math.MaxInt, "..", o8, "abc"},
		{"ab\nc", math.MaxInt, "..", o8, "ab.."},
		{"ab\nc", 2, "..", o8, ".."},
		{"ab\nc", 3, "..", o8, "a.."},
		{"ab\nc", 1, "..", o8, "a"},
		{"\nc", 5, "..", o8, ".."},
		{"", 5, "..", o8, ""},
		{"", -5, "..", o8, ""},
		{"abcdef", 4, "", o8, "abcd"},
		{"abcdef", -1, "", o8, ""},
		{"ab\nc", 9, "", o8, "ab"},
		{"a\u4e00bc", 4, ".", o8, "a\u4e00."},
		{"a\u4e00bc", 3, ".", o8, "a."},
		{"a\u4e00bc", 4, "\u4e00", o8, "a\u4e00"},
		{"abcdef", 4, "\u0301", o8, "abcd\u0301"},
		{"abcdef", 4, "\u0301.", o8, "abc\u0301."},
		{"abcdef", 4, "\u0903", o8, "abc\u0903"}, // reckoned by itself, though it stands with the c then
		{"abcdef", 4, "\n", o8, "abcd"},
		{"abcdef", 4, ".\n", o8, "abcd"},
		{"abcdef", 4, "\r\n.", o8, "abcd"},
		{"abcdef", 4, "\u2029", o8, "abcd"},
		{"abcdefghij", 8, "\t", o8, "abcdefg\t"},
		{"abcdefghij", 9, "\t", o8, "abcdefg\t"},
		{"abcdefghij", 9, "\t.", o8, "abcdefg\t."},
		{"abcdefghij", 8, "\t.", o8, "abcdefgh"}, // from no column on
		{"abcdefghij", 9, ".\t.", o8, "abcdef.\t."},
		{"abcdefghij", 7, "\t", o8, "abcdefg"},
		{"abcdefghi", 8, "\t", by(1, 4, 0), "abcdefg\t"},
		{"abcdefghi", 8, "\t\t", by(1, 4, 0), "abc\t\t"},
		{"abcdefghi", 8, ".\t\t", by(1, 4, 0), "ab.\t\t"},
		{"abcdefghi", 8, ".\t.\t.", by(1, 4, 0), "abcdefgh"},
		{"abcdefghi", 3, "\t\t", by(1, 1, 0), "a\t\t"},
		{"ab\tcd", 9, ".", o8, "ab\t."},
		{"ab\tcd", 8, ".", o8, "ab."},
		{"abc", 4, "..", by(1, 8, 3), "a"},
		{"abc", 5, "..", by(1, 8, 3), ".."},
		{"abc", 2, "..", by(1, 8, 3), ""},
		{"abc", 2, "", by(1, 8, 3), ""},
		{"abc", 2, "\u0301", by(1, 8, 3), ""},
		{"abc", 3, "\u0301", by(1, 8, 3), "\u0301"},
		{"ab\u200bcd", 2, "\u200b", o8, "ab\u200b\u200b"},
		{"\xffab\xff", 3, "\xff", o8, "\xffa\xff"},
		{"abcdef", 3, "\xe2\x80", o8, "a\xe2\x80"},
		{"\u03b1\u03b1\u03b1", 5, "\u2026", by(2, 8, 0), "\u03b1\u2026"},
		{"\u03b1\u03b1\u03b1", 2, "\u2026", by(1, 8, 0), "\u03b1\u2026"},
	} {
		if got := width.Short(x.s, x.cells, x.tail, x.o); got != x.want {
			t.Errorf("%q, %d, %q, %v: %q; want %q", x.s, x.cells, x.tail, x.o, got, x.want)
		}
	}
}

// TestP15_6Tails has every tail at every number of cells.
func TestP15_6Tails(t *testing.T) {
	x := plain(t)
	for _, s := range []string{"", "abcdefghi", "a\tb\tc", "\u4e00\u4e00\u4e00\u4e00", "\xffe\u0301\u200b\t\xff\xff", "abcdef\ng", "\n", "\tx\u2028"} {
		for _, tail := range tails {
			for _, o := range options {
				held(t, x, s, tail, o)
			}
		}
	}
}

// blanks are so many of them.
func blanks(n int) string { return strings.Repeat(" ", n) }

// TestP15_7 has Pad by hand.
func TestP15_7(t *testing.T) {
	for _, x := range []struct {
		s           string
		cells, left int
		o           api.Cells
		want        string
	}{
		{"ab", 5, 1, o8, " ab  "},
		{"ab", 5, 0, o8, "ab   "},
		{"ab", 5, -1, o8, "ab   "},
		{"ab", 5, math.MinInt, o8, "ab   "},
		{"ab", 5, 2, o8, "  ab "},
		{"ab", 5, 3, o8, "   ab"},
		{"ab", 5, 4, o8, "   ab"},
		{"ab", 5, math.MaxInt, o8, "   ab"},
		{"ab", 3, 0, o8, "ab "},
		{"ab", 2, 0, o8, "ab"},
		{"ab", 1, 1, o8, "ab"},
		{"ab", -1, 1, o8, "ab"},
		{"ab", math.MinInt, 1, o8, "ab"},
		{"ab", math.MinInt, 1, by(1, 8, api.MaxStart), "ab"},
		{"ab", math.MaxInt, 1, o8, "ab"},
		{"", 3, 1, o8, "   "},
		{"", 3, 1, by(1, 8, 2), " "},
		{"", 2, 1, by(1, 8, 2), ""},
		{"", math.MinInt, 1, by(1, 8, 2), ""},
		{"ab", 5, 1, by(1, 8, 2), " ab"},
		{"ab", 10002, 4000, o8, blanks(4000) + "ab" + blanks(6000)},
		{"ab", 10002, 10000, o8, blanks(10000) + "ab"},
		{"ab", 10003, 4000, o8, "ab"},
		{"", 10000, 0, o8, blanks(10000)},
		{"", 10001, 0, o8, ""},
		{"", api.MaxStart + 10000, 1, by(1, 8, api.MaxStart), blanks(10000)},
		{"", api.MaxStart + 10001, 1, by(1, 8, api.MaxStart), ""},
		{"ab\n", 5, 1, o8, "ab\n"},
		{"ab\nc", 5, 1, o8, "ab\nc"},
		{"\nab", 5, 1, o8, "\nab"},
		{"ab\r\n", 5, 1, o8, "ab\r\n"},
		{"ab\u0085c", 5, 1, o8, "ab\u0085c"},
		{"a\u4e00", 5, 1, o8, " a\u4e00 "},
		{"\u03b1", 3, 0, by(2, 8, 0), "\u03b1 "},
		{"e\u0301", 3, 1, o8, " e\u0301 "},
		{"\u0301", 2, 1, o8, " \u0301 "}, // reckoned by itself, though it stands with a blank then
		{"\t", 10, 1, o8, " \t "},
		{"a\t", 10, 2, o8, "  a\t"},
		{"\xff", 3, 1, o8, " \xff "},
		{"\xe2\x80", 3, 0, o8, "\xe2\x80 "},
	} {
		if got := width.Pad(x.s, x.cells, x.left, x.o); got != x.want {
			t.Errorf("%q, %d, %d, %v: %q; want %q", x.s, x.cells, x.left, x.o, got, x.want)
		}
	}
}

// TestP15_8 has Plain by hand.
func TestP15_8(t *testing.T) {
	for _, x := range []struct {
		s    string
		o    api.Cells
		want string
	}{
		{"", o8, ""},
		{"ab\n\u4e00", o8, "ab\n\u4e00"},
		{"a\tb", o8, "a" + blanks(7) + "b"},
		{"\t", o8, blanks(8)},
		{"\t\t", o8, blanks(16)},
		{"a\t\tb", by(1, 4, 0), "a" + blanks(3) + blanks(4) + "b"},
		{"1234567\t", o8, "1234567 "},
		{"12345678\t", o8, "12345678" + blanks(8)},
		{"\u4e00\tb", o8, "\u4e00" + blanks(6) + "b"},
		{"\u03b1\tb", by(1, 8, 0), "\u03b1" + blanks(7) + "b"},
		{"\u03b1\tb", by(2, 8, 0), "\u03b1" + blanks(6) + "b"},
		{"e\u0301\t", by(1, 4, 0), "e\u0301" + blanks(3)},
		{"\t\u0301b", by(1, 4, 0), blanks(4) + "\u0301b"},
		{"\t\u0903\t", by(1, 4, 0), blanks(4) + "\u0903" + blanks(3)},
		{"\u0600\t", by(1, 4, 0), "\u0600" + blanks(4)},
		{"abc\n\tx", o8, "abc\n" + blanks(8) + "x"},
		{"abc\r\n\tx\u2028\t", by(1, 2, 9), "abc\r\n  x\u2028  "},
		{"\t", by(1, 8, 3), blanks(5)},
		{"\t", by(1, 8, 8), blanks(8)},
		{"\t", by(1, 64, 1), blanks(63)},
		{"\ta\t", by(1, 1, 5), " a "},
		{"\t", by(1, 64, api.MaxStart), blanks(64)},
		{"\xff\t\xe2", by(1, 4, 0), "\xff" + blanks(3) + "\xe2"},
	} {
		if got := width.Plain(x.s, x.o); got != x.want {
			t.Errorf("%q, %v: %q; want %q", x.s, x.o, got, x.want)
		}
	}
}

// TestP15_9 has Hit by hand.
func TestP15_9(t *testing.T) {
	for _, x := range []struct {
		s      string
		column int
		o      api.Cells
		want   int
	}{
		{"a\u4e00b", 0, o8, 0},
		{"a\u4e00b", 1, o8, 1},
		{"a\u4e00b", 2, o8, 1},
		{"a\u4e00b", 3, o8, 4},
		{"a\u4e00b", 4, o8, 5},
		{"a\u4e00b", 9, o8, 5},
		{"a\u4e00b", -1, o8, 0},
		{"a\u4e00b", math.MinInt, o8, 0},
		{"a\u4e00b", math.MaxInt, o8, 5},
		{"ab\nc", 7, o8, 2},
		{"ab\nc", 2, o8, 2},
		{"ab\nc", 1, o8, 1},
		{"ab\nc", 0, o8, 0},
		{"\nc", 5, o8, 0},
		{"", 5, o8, 0},
		{"", 0, o8, 0},
		{"ab", 4, by(1, 8, 5), 0},
		{"ab", 5, by(1, 8, 5), 0},
		{"ab", 6, by(1, 8, 5), 1},
		{"ab", 7, by(1, 8, 5), 2},
		{"\u200bab", 4, by(1, 8, 5), 0},
		{"\u200bab", 5, by(1, 8, 5), 3}, // the last one that begins there
		{"a\u200bb", 1, o8, 4},
		{"a\u200b", 1, o8, 4},
		{"a\u200b", 0, o8, 0},
		{"a\tb", 1, o8, 1},
		{"a\tb", 7, o8, 1},
		{"a\tb", 8, o8, 2},
		{"a\tb", 9, o8, 3},
		{"e\u0301x", 0, o8, 0},
		{"e\u0301x", 1, o8, 3},
		{"ab\r\ncd", 9, o8, 2},
		{"ab\u2029", math.MaxInt, o8, 2},
		{"\xffa\xe2\x80", 2, o8, 2},
		{"\xffa\xe2\x80", 3, o8, 3},
		{"\xffa\xe2\x80", 4, o8, 4},
		{"\u03b1b", 1, by(2, 8, 0), 0},
		{"\u03b1b", 1, by(1, 8, 0), 2},
	} {
		if got := width.Hit(x.s, x.column, x.o); got != x.want {
			t.Errorf("%q, %d, %v: %d; want %d", x.s, x.column, x.o, got, x.want)
		}
	}
}
