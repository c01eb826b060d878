package cursor_test

import (
	"math"
	"math/rand"
	"slices"
	"strings"
	"testing"

	"kerf/api"
	"kerf/cursor"
)

// at and by are a cursor and a motion, in short.
type (
	at struct{ At, Goal int }
	by struct{ Kind, N int }
)

// TestP21_1 has places by hand.
func TestP21_1(t *testing.T) {
	for _, c := range []struct {
		s        string
		at, want int
	}{
		{"", 0, 0},
		{"", -1, 0},
		{"", 5, 0},
		{"", math.MinInt, 0},
		{"", math.MaxInt, 0},
		{"e\u0301x", math.MinInt, 0},
		{"e\u0301x", -1, 0},
		{"e\u0301x", 0, 0},
		{"e\u0301x", 1, 0}, // an edge within a letter
		{"e\u0301x", 2, 0}, // within a rune
		{"e\u0301x", 3, 3},
		{"e\u0301x", 4, 4},
		{"e\u0301x", 5, 4},
		{"e\u0301x", math.MaxInt, 4},
		{"a\r\nb", 2, 1},
		{"a\r\nb", 3, 3},
		{"\U0001f1e6\U0001f1e7\U0001f1e8", 7, 0},
		{"\U0001f1e6\U0001f1e7\U0001f1e8", 11, 8},
		{"\xe2\x82", 1, 1}, // each fault is a letter
		{"\u0301", 1, 0},
	} {
		if got := cursor.Snap(c.s, c.at); got != c.want {
			t.Errorf("%q at %d: %d; want %d", c.s, c.at, got, c.want)
		}
	}
}

// TestP21_2 has steps by hand.
func TestP21_2(t *testing.T) {
	const (
		least, most = math.MinInt, math.MaxInt
		lines       = "ab\ncd\r\nef"
	)
	for _, c := range []struct {
		s           string
		at, kind, n int
		want        int
	}{
		{"ab cd", 0, api.ToWord, 1, 2}, // the examples
		{"ab cd", 2, api.ToWord, 1, 5},
		{"ab cd", 5, api.ToWord, -1, 3},
		{"e\u0301x", 2, api.ToLetter, 1, 3},
		{"ab", 0, api.ToLetter, 99, 2},

		{"e\u0301xy", 0, api.ToLetter, 2, 4},
		{"e\u0301xy", 5, api.ToLetter, -3, 0},
		{"e\u0301xy", 5, api.ToLetter, -2, 3},
		{"abc", 1, api.ToLetter, 0, 1},
		{"abc", 1, api.ToLetter, most, 3},
		{"abc", 2, api.ToLetter, least, 0},
		{"abc", most, api.ToLetter, -1, 2},
		{"abc", least, api.ToLetter, 1, 1},
		{"\U0001f1e6\U0001f1e7\U0001f1e8\U0001f1e9", 8, api.ToLetter, 1, 16},
		{"\U0001f1e6\U0001f1e7\U0001f1e8\U0001f1e9", 16, api.ToLetter, -1, 8},
		{"", 0, api.ToLetter, 1, 0},

		{"ab cd", 1, api.ToWord, 1, 2},  // from within a word
		{"ab cd", 4, api.ToWord, -1, 3}, // and back
		{"ab cd", 3, api.ToWord, -1, 0},
		{"ab cd", 0, api.ToWord, 2, 5},
		{"ab cd..", 5, api.ToWord, 1, 7}, // no word is behind
		{"..ab", 2, api.ToWord, -1, 0},   // none ahead
		{"..ab", 4, api.ToWord, -1, 2},
		{"  3.5 ", 0, api.ToWord, 1, 5},
		{"- -", 0, api.ToWord, 1, 3},
		{"- -", 3, api.ToWord, -1, 0},
		{"ab", 2, api.ToWord, 1, 2},
		{"a\u0903b", 0, api.ToWord, 1, 4},  // the word ends within the letter that it begins: on to its end
		{"ca\u0903b", 0, api.ToWord, 1, 1}, // within another: ahead of that
		{"ca\u0903b", 0, api.ToWord, 2, 5}, // and on from there behind that
		{"ca\u0903b", 1, api.ToWord, 1, 5},
		{"x \u0600b", 5, api.ToWord, -1, 2}, // the word begins within a letter
		{"x \u0600b", 2, api.ToWord, -1, 0},
		{"x \u0600b", 0, api.ToWord, most, 5},
		{"x \u0600b", 5, api.ToWord, least, 0},

		{"A b. C d. E", 0, api.ToSentence, 1, 5},
		{"A b. C d. E", 0, api.ToSentence, 2, 10},
		{"A b. C d. E", 11, api.ToSentence, -1, 10},
		{"A b. C d. E", 10, api.ToSentence, -1, 5},
		{"A b. C d. E", 7, api.ToSentence, -1, 5},
		{"A b. C d. E", 7, api.ToSentence, 9, 11},
		{"A b. C d. E", 7, api.ToSentence, -9, 0},
		{"A!\u0903 B", 0, api.ToSentence, 1, 1}, // it ends within the letter of the mark
		{"A!\u0903 B", 1, api.ToSentence, 1, 5}, // on to the end of that
		{"A!\u0903 B", 7, api.ToSentence, -1, 1},
		{"A!\u0903 B", 1, api.ToSentence, -1, 0},

		{lines, 0, api.ToLine, 1, 3},
		{lines, 1, api.ToLine, 2, 7},
		{lines, 2, api.ToLine, 1, 3}, // from where a line ends
		{lines, 6, api.ToLine, 1, 7}, // from within the end of it
		{lines, 7, api.ToLine, 1, 7}, // there is no other line
		{lines, 8, api.ToLine, most, 8},
		{lines, 8, api.ToLine, -1, 7},
		{lines, 7, api.ToLine, -1, 3},
		{lines, 5, api.ToLine, -1, 3},
		{lines, 9, api.ToLine, -2, 3},
		{lines, 9, api.ToLine, least, 0},
		{lines, 0, api.ToLine, -1, 0},
		{"\n\n", 0, api.ToLine, 2, 2},
		{"\n\n", 2, api.ToLine, -1, 1},
		{"ab\n", 0, api.ToLine, 1, 3}, // the last line is empty
		{"ab\n", 3, api.ToLine, -1, 0},

		{"e\u0301x", 2, api.ToHome, 1, 0}, // any other kind
		{"e\u0301x", 3, api.ToRow, 1, 3},
		{"e\u0301x", 9, api.ToBegin, 1, 4},
		{"e\u0301x", -1, api.ToLast, 1, 0},
		{"e\u0301x", 3, -1, 1, 3},
		{"e\u0301x", 3, 99, -1, 3},
		{"e\u0301x", 1, least, least, 0},
	} {
		if got := cursor.Step(c.s, c.at, c.kind, c.n); got != c.want {
			t.Errorf("%q at %d of kind %d by %d: %d; want %d", c.s, c.at, c.kind, c.n, got, c.want)
		}
	}
}

// TestP21_2None has kinds that do not go by steps.
func TestP21_2None(t *testing.T) {
	for s := range rows(2, parts...) {
		p := plainOf(s)
		for _, at := range around(s) {
			for i, kind := range slices.Concat(toPlace, none, []int{api.ToRow}) {
				n := numbers[i%len(numbers)]
				if got, want := cursor.Step(s, at, kind, n), p.snap(at); got != want {
					t.Fatalf("%q: at %d of kind %d by %d: %d; want %d", s, at, kind, n, got, want)
				}
			}
		}
	}
}

// TestP21_2Rows has all short texts, at every place, by every kind.
func TestP21_2Rows(t *testing.T) {
	for long := range 3 {
		for s := range rows(long, slices.Concat(parts, more)...) {
			held(t, s)
		}
	}
	for s := range rows(3, parts...) {
		held(t, s)
	}
	for s := range rows(4, "a", "!", "\u0903", "\u0600", " ", "\r", "\n") {
		held(t, s)
	}
}

// TestP21_2Any has longer ones.
func TestP21_2Any(t *testing.T) {
	r := rand.New(rand.NewSource(212))
	for range 1000 {
		held(t, someText(r, 16))
	}
}

// TestP21_3 has columns by hand.
func TestP21_3(t *testing.T) {
	for _, c := range []struct {
		s    string
		at   int
		o    api.Cells
		want int
	}{
		{"", 0, o8, 0},
		{"abc", 2, o8, 2},
		{"abc", -1, o8, 0},
		{"abc", 99, o8, 3},
		{"a\u4e00b", 4, o8, 3},
		{"a\u4e00b", 3, o8, 1}, // within a letter
		{"a\tb", 2, o8, 8},
		{"ab\ncd", 2, o8, 2},
		{"ab\ncd", 3, o8, 0},
		{"ab\ncd", 4, o8, 1},
		{"ab\r\ncd", 3, o8, 2}, // within what ends a line
		{"ab\r\ncd", 4, o8, 0},
		{"ab\n", 3, o8, 0},
		{"x\u2028ab", 5, o8, 1},
		{"ab\xe2\x82", 3, o8, 3},
		{"a\u03b1", 3, api.Cells{Ambiguous: 2, Tab: 8}, 3},
		{"ab\ncd", 4, api.Cells{Ambiguous: 1, Tab: 8, Start: 5}, 6}, // each line begins there
		{"ab\ncd", 1, api.Cells{Ambiguous: 1, Tab: 8, Start: 5}, 6},
		{"ab\n\t", 4, api.Cells{Ambiguous: 1, Tab: 4, Start: 5}, 8},
		{"abc", 2, api.Cells{Ambiguous: 1, Tab: 0}, 0},
		{"abc", 2, api.Cells{Ambiguous: 1, Tab: 8, Start: -1}, 0},
		{"abc", 2, api.Cells{}, 0},
	} {
		if got := cursor.Column(c.s, c.at, c.o); got != c.want {
			t.Errorf("%q at %d, %v: %d; want %d", c.s, c.at, c.o, got, c.want)
		}
	}
}

// TestP21_4 has rows by hand.
func TestP21_4(t *testing.T) {
	const s = "abc\nd\nefg"
	start := api.Cells{Ambiguous: 1, Tab: 8, Start: 4}
	for _, c := range []struct {
		s    string
		c    at
		n    int
		o    api.Cells
		want at
	}{
		{s, at{2, -1}, 1, o8, at{5, 2}}, // the examples
		{s, at{5, 2}, 1, o8, at{8, 2}},
		{s, at{8, 2}, -9, o8, at{2, 2}},

		{s, at{2, -1}, 2, o8, at{8, 2}},
		{s, at{2, math.MinInt}, 2, o8, at{8, 2}},
		{s, at{2, 0}, 1, o8, at{4, 0}},
		{s, at{2, 1}, 2, o8, at{7, 1}},
		{s, at{2, math.MaxInt}, 2, o8, at{9, math.MaxInt}},
		{s, at{1, -1}, 9, o8, at{7, 1}},
		{s, at{1, 3}, math.MinInt, o8, at{3, 3}}, // there is no line ahead: at the column of this one
		{s, at{7, 3}, math.MaxInt, o8, at{9, 3}},
		{s, at{7, -1}, 1, o8, at{7, 1}},
		{s, at{1, 3}, 0, o8, at{1, 3}},
		{s, at{1, -1}, 0, o8, at{1, 1}},
		{s, at{-1, -1}, 0, o8, at{0, 0}},
		{s, at{99, -1}, -1, o8, at{5, 3}},
		{"e\u0301\nx", at{2, -1}, 0, o8, at{0, 0}},
		{"ab\n\u4e00\u4e00", at{1, -1}, 1, o8, at{3, 1}}, // the wide letter stands in that column
		{"ab\n\u4e00\u4e00", at{2, -1}, 1, o8, at{6, 2}},
		{"ab\n\tc", at{2, -1}, 1, o8, at{3, 2}},
		{"ab\r\nc\r\n", at{1, -1}, 1, o8, at{5, 1}},
		{"ab\r\nc\r\n", at{1, -1}, 2, o8, at{7, 1}}, // the last line is empty
		{"ab\r\nc\r\n", at{7, 1}, -2, o8, at{1, 1}},
		{"ab\ncd", at{1, -1}, 1, start, at{4, 5}},
		{"ab\ncd", at{1, 3}, 1, start, at{3, 3}}, // the column is ahead of the line
		{"", at{0, -1}, 5, o8, at{0, 0}},
		{"", at{3, 7}, -5, o8, at{0, 7}},

		{s, at{2, -1}, 1, api.Cells{}, at{4, 0}}, // refused
		{s, at{2, 2}, 2, api.Cells{}, at{6, 2}},
		{s, at{8, -1}, 9, api.Cells{}, at{6, 0}},
		{s, at{8, -1}, 0, api.Cells{}, at{8, 0}},
		{s, at{8, 2}, 0, api.Cells{}, at{8, 2}},
	} {
		if got := at(cursor.Row(c.s, api.Cursor(c.c), c.n, c.o)); got != c.want {
			t.Errorf("%q, %v by %d, %v: %v; want %v", c.s, c.c, c.n, c.o, got, c.want)
		}
	}
}

// TestP21_4Rows has columns, rows, motions and what they erase, of all short texts.
func TestP21_4Rows(t *testing.T) {
	for _, s := range parts {
		for _, u := range slices.Concat(parts, more) {
			heldRows(t, s+u, o8)
			heldRows(t, u+s, options[1])
		}
	}
	for s := range rows(3, "a", " ", "\t", "\u4e00", "\u0903", "\n", "\r", "\xff") {
		heldRows(t, s, options[2])
		heldRows(t, s, refused[len(s)%len(refused)])
	}
}

// TestP21_4Any has longer ones.
func TestP21_4Any(t *testing.T) {
	r := rand.New(rand.NewSource(214))
	for i := range 400 {
		s := someText(r, 12)
		heldRows(t, s, options[i%len(options)])
		heldRows(t, s, refused[i%len(refused)])
	}
}

// TestP21_5 has motions by hand.
func TestP21_5(t *testing.T) {
	const s = "a\n\t e\u0301 b \r\n  \nc"
	for _, c := range []struct {
		c    at
		m    by
		want at
	}{
		{at{2, 5}, by{api.ToLetter, 3}, at{7, -1}},
		{at{7, 5}, by{api.ToLetter, -1}, at{4, -1}},
		{at{2, 5}, by{api.ToWord, 1}, at{7, -1}},
		{at{9, 5}, by{api.ToWord, -1}, at{8, -1}},
		{at{9, 5}, by{api.ToSentence, -1}, at{2, -1}},
		{at{9, 5}, by{api.ToLine, 1}, at{12, -1}},
		{at{9, 5}, by{api.ToLine, 0}, at{9, -1}},
		{at{6, 5}, by{api.ToLetter, 0}, at{4, -1}},
		{at{8, -1}, by{api.ToRow, 1}, at{14, 11}},
		{at{8, 1}, by{api.ToRow, 1}, at{13, 1}},
		{at{8, 1}, by{api.ToRow, -1}, at{1, 1}},
		{at{8, -1}, by{api.ToRow, 0}, at{8, 11}},

		{at{8, 5}, by{api.ToHome, 0}, at{2, -1}},
		{at{2, 5}, by{api.ToHome, -3}, at{2, -1}},
		{at{11, 5}, by{api.ToHome, 3}, at{2, -1}}, // within what ends the line
		{at{12, 5}, by{api.ToHome, 3}, at{12, -1}},
		{at{1, 5}, by{api.ToHome, 1}, at{0, -1}},
		{at{-1, 5}, by{api.ToHome, 1}, at{0, -1}},
		{at{99, 5}, by{api.ToHome, 1}, at{15, -1}},
		{at{8, 5}, by{api.ToEnd, 0}, at{10, -1}},
		{at{10, 5}, by{api.ToEnd, 4}, at{10, -1}},
		{at{11, 5}, by{api.ToEnd, -4}, at{10, -1}},
		{at{12, 5}, by{api.ToEnd, 1}, at{14, -1}},
		{at{15, 5}, by{api.ToEnd, 1}, at{16, -1}},
		{at{10, 5}, by{api.ToInk, 0}, at{4, -1}},
		{at{2, 5}, by{api.ToInk, 7}, at{4, -1}},
		{at{13, 5}, by{api.ToInk, 1}, at{14, -1}}, // all is blank
		{at{16, 5}, by{api.ToInk, 1}, at{15, -1}},
		{at{1, 5}, by{api.ToInk, 1}, at{0, -1}},
		{at{8, 5}, by{api.ToBegin, 7}, at{0, -1}},
		{at{-8, 5}, by{api.ToBegin, -7}, at{0, -1}},
		{at{8, 5}, by{api.ToLast, -7}, at{16, -1}},
		{at{99, 5}, by{api.ToLast, 0}, at{16, -1}},

		{at{6, 5}, by{10, 1}, at{4, 5}}, // any other kind
		{at{6, -5}, by{-1, 1}, at{4, -5}},
		{at{99, math.MinInt}, by{math.MaxInt, 1}, at{16, math.MinInt}},
	} {
		if got := at(cursor.Do(s, api.Cursor(c.c), api.Motion(c.m), o8)); got != c.want {
			t.Errorf("%v by %v: %v; want %v", c.c, c.m, got, c.want)
		}
	}
}

// TestP21_5Rows has all motions, and what they erase, of short texts.
func TestP21_5Rows(t *testing.T) {
	for s := range rows(2, parts...) {
		p := plainOf(s)
		for at := range len(s) + 1 {
			for i, kind := range every {
				for _, n := range []int{1, -1, 2} {
					heldMotion(t, p, api.Cursor{At: at, Goal: goals[i%len(goals)]}, api.Motion{Kind: kind, N: n}, o8)
				}
			}
		}
	}
}

// TestP21_5Ink has what lines begin with.
func TestP21_5Ink(t *testing.T) {
	for _, c := range []struct {
		s    string
		want int
	}{
		{"", 0},
		{"a", 0},
		{"  a", 2},
		{"\u3000\u00a0\u2009a", 8},
		{" \u0301a", 3},      // the letter begins with a blank
		{" \u0600 a", 1},     // it begins with another rune
		{" \xffa", 1},        // and that is a fault
		{" \u200ba", 1},      // which is no Sp
		{"  \u2028a", 2},     // the line ends
		{"\va", 0},           // likewise
		{" \t\u1680\r\n", 5}, // nothing but blanks
	} {
		want := api.Cursor{At: c.want, Goal: -1}
		if got := cursor.Do(c.s, api.Cursor{}, api.Motion{Kind: api.ToInk, N: 1}, o8); got != want {
			t.Errorf("%q: %v; want %v", c.s, got, want)
		}
	}
}

// TestP21_5Path has several motions.
func TestP21_5Path(t *testing.T) {
	const s = "abc\nd\nefg"
	l := []api.Motion{{Kind: api.ToRow, N: 1}, {Kind: api.ToRow, N: 1}, {Kind: 99}, {Kind: api.ToWord, N: -1}, {Kind: api.ToEnd}, {Kind: api.ToRow, N: -1}, {Kind: api.ToBegin}}
	want := []api.Cursor{{At: 5, Goal: 2}, {At: 8, Goal: 2}, {At: 8, Goal: 2}, {At: 6, Goal: -1}, {At: 9, Goal: -1}, {At: 5, Goal: 3}, {At: 0, Goal: -1}}
	given := slices.Clone(l)
	got := cursor.Path(s, api.Cursor{At: 2, Goal: -1}, l, o8)
	if !slices.Equal(got, want) {
		t.Errorf("%v; want %v", got, want)
	}
	if !slices.Equal(l, given) {
		t.Errorf("the motions are %v", l)
	}
	other := cursor.Path(s, api.Cursor{At: 2, Goal: -1}, l, o8)
	clear(other[:cap(other)])
	if !slices.Equal(got, want) {
		t.Errorf("then %v", got)
	}
	for _, none := range [][]api.Motion{nil, {}} {
		if got := cursor.Path(s, api.Cursor{At: 2}, none, o8); len(got) != 0 {
			t.Errorf("of none: %v", got)
		}
	}
}

// TestP21_5Any has paths of any motions.
func TestP21_5Any(t *testing.T) {
	r := rand.New(rand.NewSource(215))
	for range 3000 {
		s := someText(r, 14)
		p := plainOf(s)
		o := options[r.Intn(len(options))]
		first := api.Cursor{At: r.Intn(len(s)+3) - 1, Goal: r.Intn(6) - 2}
		l := make([]api.Motion, r.Intn(12))
		c, want := first, []api.Cursor(nil)
		for i := range l {
			l[i] = api.Motion{Kind: r.Intn(12) - 1, N: r.Intn(7) - 3}
			c = p.do(c, l[i], o)
			want = append(want, c)
		}
		if got := cursor.Path(s, first, l, o); !slices.Equal(got, want) {
			t.Fatalf("%q: Path from %v by %v, %v: %v; want %v", s, first, l, o, got, want)
		}
	}
}

// TestP21_6Erase has what is erased by hand.
func TestP21_6Erase(t *testing.T) {
	for _, c := range []struct {
		s    string
		at   int
		m    by
		want string
		to   int
	}{
		{"ab cd", 5, by{api.ToWord, -1}, "ab ", 3}, // the example
		{"ab cd", 0, by{api.ToWord, 1}, " cd", 0},
		{"ab cd", 4, by{api.ToWord, -2}, "d", 0},
		{"ab cd", 1, by{api.ToLetter, 2}, "acd", 1},
		{"ab cd", 5, by{api.ToLetter, 1}, "ab cd", 5},
		{"ab cd", 0, by{api.ToLetter, -1}, "ab cd", 0},
		{"e\u0301x", 2, by{api.ToLetter, 1}, "x", 0},
		{"e\u0301x", 9, by{api.ToLetter, -2}, "", 0},
		{"ab\ncd", 4, by{api.ToHome, 0}, "ab\nd", 3},
		{"ab\ncd", 1, by{api.ToEnd, 0}, "a\ncd", 1},
		{"ab\ncd", 4, by{api.ToRow, -1}, "ad", 1},
		{"ab\ncd", 1, by{api.ToRow, 1}, "ad", 1},
		{"ab\ncd", 4, by{api.ToBegin, 0}, "d", 0},
		{"ab\ncd", 4, by{api.ToLast, 0}, "ab\nc", 4},
		{"ab\ncd", 4, by{99, 1}, "ab\ncd", 4},
		{"e\u0301x", 2, by{99, 1}, "e\u0301x", 0},
		{"a\n\u0301", 2, by{api.ToLetter, -1}, "a\u0301", 0},     // what stood behind it is of the letter ahead
		{"\r-\n", 1, by{api.ToLetter, 1}, "\r\n", 0},             // two ends of lines are one
		{"x\xe2-\x82\xac", 2, by{api.ToLetter, 1}, "x\u20ac", 1}, // three faults are a rune
		{"\U0001f1e6-\U0001f1e7", 4, by{api.ToLetter, 1}, "\U0001f1e6\U0001f1e7", 0},
		{"", 0, by{api.ToWord, -1}, "", 0},
	} {
		for _, goal := range []int{-1, 0, 1} {
			if c.m.Kind == api.ToRow && goal == 0 {
				continue
			}
			got, there := cursor.Erase(c.s, api.Cursor{At: c.at, Goal: goal}, api.Motion(c.m), o8)
			if got != c.want || there != (api.Cursor{At: c.to, Goal: -1}) {
				t.Errorf("%q at %d by %v: %q, %v; want %q, %d", c.s, c.at, c.m, got, there, c.want, c.to)
			}
		}
	}
}

// TestP21_6Put has what is put in by hand.
func TestP21_6Put(t *testing.T) {
	for _, c := range []struct {
		s    string
		at   int
		t    string
		want string
		to   int
	}{
		{"e", 1, "\u0301x", "e\u0301x", 4}, // the examples
		{"x", 0, "e", "ex", 1},
		{"\u0301", 0, "e", "e\u0301", 3},

		{"ab", 1, "xy", "axyb", 3},
		{"ab", 1, "", "ab", 1},
		{"ab", -5, "x", "xab", 1},
		{"ab", 99, "x", "abx", 3},
		{"ab", math.MinInt, "x", "xab", 1},
		{"ab", math.MaxInt, "x", "abx", 3},
		{"", 0, "", "", 0},
		{"", 5, "", "", 0},
		{"", 0, "x", "x", 1},
		{"e\u0301", 2, "x", "xe\u0301", 1}, // ahead of the letter
		{"e", 1, "\u0301", "e\u0301", 3},
		{"\n\u0301x", 1, "e", "\ne\u0301x", 4},
		{"\nx", 0, "\r", "\r\nx", 2},
		{"\x82\xacx", 0, "\xe2", "\u20acx", 3},
		{"\xe2\x82x", 2, "\xac", "\xe2\x82\xacx", 3},
		{"\U0001f1e6\U0001f1e7", 0, "\U0001f1e8", "\U0001f1e8\U0001f1e6\U0001f1e7", 8},
		{"\U0001f1e6\U0001f1e7", 8, "\U0001f1e8", "\U0001f1e6\U0001f1e7\U0001f1e8", 12},
		{"a\u200d", 0, "\U0001f600", "\U0001f600a\u200d", 4},
	} {
		for _, goal := range []int{-1, 0, 7} {
			got, there := cursor.Put(c.s, api.Cursor{At: c.at, Goal: goal}, c.t)
			if got != c.want || there != (api.Cursor{At: c.to, Goal: -1}) {
				t.Errorf("%q at %d, %q: %q, %v; want %q, %d", c.s, c.at, c.t, got, there, c.want, c.to)
			}
		}
	}
}

// TestP21_6Rows has all parts put between all.
func TestP21_6Rows(t *testing.T) {
	of := slices.Concat(parts, more)
	for _, u := range of {
		heldPut(t, "", u)
		for _, s := range of {
			heldPut(t, s, u)
		}
	}
	for s := range rows(2, parts...) {
		for _, u := range parts {
			heldPut(t, s, u)
		}
	}
	r := rand.New(rand.NewSource(216))
	for range 3000 {
		heldPut(t, someText(r, 10), someText(r, 5))
	}
}

// TestLong has texts that no one would wait for, if the whole, or a long row of flags, were gone through at each step.
func TestLong(t *testing.T) {
	const n = 100000
	flags := strings.Repeat("\U0001f1e6", n)
	text := strings.Repeat("It's 3.5 a\u0903b. No!\r\n", n)
	blanks := strings.Repeat(" ", n)
	for _, c := range []struct {
		s              string
		kind, n, steps int
	}{
		{flags, api.ToLetter, 1, n / 2},
		{flags, api.ToWord, 1, 1},
		{flags, api.ToSentence, 1, 1},
		{flags, api.ToLine, 1, 0},
		{text, api.ToLetter, 1, 17 * n},
		{text, api.ToWord, 1, 6*n + 1},
		{text, api.ToSentence, 1, 2 * n},
		{text, api.ToLine, 1, n},
		{"a" + blanks + "b", api.ToWord, 1, 2},
		{strings.Repeat("a\u0903", n), api.ToWord, 1, n},
	} {
		all := cursor.Step(c.s, 0, c.kind, math.MaxInt)
		if got := cursor.Step(c.s, 0, c.kind, c.steps); got != all {
			t.Errorf("%.20q of kind %d: %d steps on to %d, all to %d", c.s, c.kind, c.steps, got, all)
		}
		if got := cursor.Step(c.s, 0, c.kind, c.steps-1); c.steps > 0 && got == all {
			t.Errorf("%.20q of kind %d: %d steps on to the end", c.s, c.kind, c.steps-1)
		}
		if got := cursor.Step(c.s, len(c.s), c.kind, math.MinInt); got != 0 {
			t.Errorf("%.20q of kind %d: back to %d", c.s, c.kind, got)
		}
	}
	c := api.Cursor{At: 4, Goal: -1}
	if got := cursor.Row(text, c, n-1, o8); got != (api.Cursor{At: len(text)/n*(n-1) + 4, Goal: 4}) {
		t.Errorf("Row: %v", got)
	}
	l := make([]api.Motion, n)
	for i := range l {
		l[i] = api.Motion{Kind: i % 10, N: 1}
	}
	if got := cursor.Path(text, c, l[:7], o8); got[6].At != 21 {
		t.Errorf("Path: %v", got)
	}
	for i := range l {
		l[i] = api.Motion{Kind: []int{api.ToRow, api.ToEnd, api.ToHome, api.ToInk, api.ToLine}[i%5], N: 1}
	}
	if got := cursor.Path(text, c, l, o8); got[n-1].At != len(text)/n*(n/5*2) {
		t.Errorf("Path: %v", got[n-1])
	}
}
