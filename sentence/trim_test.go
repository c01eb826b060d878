package sentence_test

import (
	"math"
	"math/rand"
	"testing"

	"kerf/api"
	"kerf/sentence"
)

// TestP13_2Trim has the chapter's examples, and others by hand.
func TestP13_2Trim(t *testing.T) {
	for _, x := range []struct {
		s                     string
		from, to, left, right int
	}{
		{" a. ", 0, 4, 1, 3},
		{"  ", 0, 2, 2, 2},
		{"  ", 0, 1, 1, 1},
		{"  ", 1, 1, 1, 1},
		{"", 0, 0, 0, 0},
		{"", 0, 1, 0, 0},
		{"", -1, 0, 0, 0},
		{"ab", 1, 1, 1, 1},
		{"ab", 2, 2, 2, 2},
		{" a", 1, 0, 0, 0}, // from above to
		{"a b", 1, 3, 2, 3},
		{"a b", 0, 2, 0, 1},
		{"a b", -1, 3, 0, 0},
		{"a b", 1, 4, 0, 0},
		{"a b", math.MinInt, math.MaxInt, 0, 0},
		{"\u00e9 ", 0, 3, 0, 2},
		{"\u00e9 ", 1, 3, 0, 0}, // within a rune
		{"\u00e9 ", 0, 1, 0, 0},
		{"\r\n\t\u00a0\u2028x y\u3000\u0085\n", 0, 17, 8, 11},
		{"\r\n\t\u00a0\u2028", 1, 8, 8, 8},
		{" \u0301 ", 0, 4, 1, 3}, // an extender is no blank
		{" \xff ", 0, 3, 1, 2},
		{"\x80 \x80", 0, 3, 0, 3},
		{" \ufeff", 0, 4, 1, 4},
	} {
		if left, right := sentence.Trim(x.s, x.from, x.to); left != x.left || right != x.right {
			t.Errorf("%q from %d to %d: %d, %d; want %d, %d", x.s, x.from, x.to, left, right, x.left, x.right)
		}
	}
}

// TestP13_2Kind has the chapter's examples, and others by hand.
func TestP13_2Kind(t *testing.T) {
	if api.KindNone != 0 || api.KindStop != 1 || api.KindTerm != 2 {
		t.Fatalf("%d, %d, %d", api.KindNone, api.KindStop, api.KindTerm)
	}
	for s, want := range map[string]int{
		"a.) ": api.KindStop, "a": api.KindNone, "": api.KindNone, ".": api.KindStop, "a?": api.KindTerm, "a!": api.KindTerm, "\u3002": api.KindTerm, "\uff0e": api.KindStop,
		"a.?": api.KindTerm, "a?.": api.KindStop, "a? .": api.KindStop, "a.)?": api.KindTerm, "a?) ": api.KindTerm, "a.\u0301": api.KindStop, "a?\u0301)\u0301 \u0301": api.KindTerm,
		"a. )": api.KindStop, "a. ) (\r\n\u2028\t\"\u0301": api.KindStop, "a.\n\n": api.KindStop, "a.,": api.KindNone, "a.b": api.KindNone, "a.B": api.KindNone, "a.\u05d0": api.KindNone, "a.7": api.KindNone, "a.+": api.KindNone,
		"a.\xff": api.KindNone, "\xff.": api.KindStop, "\xff?\x80.": api.KindStop, "a?\xff)": api.KindNone, ")": api.KindNone, " \u0301": api.KindNone, "? a": api.KindNone, "?,.": api.KindStop,
	} {
		if got := sentence.Kind(s, 0, len(s)); got != want {
			t.Errorf("%q: %d; want %d", s, got, want)
		}
		// What stands around has no part in it.
		for _, around := range []string{"a", ".", "?", ")", "\u0301", "\xff"} {
			if got := sentence.Kind(around+s+around, len(around), len(around)+len(s)); got != want {
				t.Errorf("%q in %q: %d; want %d", s, around, got, want)
			}
		}
	}
	for _, x := range []struct {
		s              string
		from, to, want int
	}{
		{"a.b?", 0, 2, api.KindStop}, {"a.b?", 0, 3, api.KindNone}, {"a.b?", 3, 4, api.KindTerm}, {"a.b?", 2, 2, api.KindNone}, {"a.b?", 4, 4, api.KindNone}, {"a.b?", 2, 1, api.KindNone},
		{"a.b?", -1, 4, api.KindNone}, {"a.b?", 0, 5, api.KindNone}, {"a.b?", math.MinInt, 2, api.KindNone}, {"a.b?", 0, math.MaxInt, api.KindNone},
		{"\u3002", 1, 3, api.KindNone}, {"\u3002", 0, 2, api.KindNone}, {".\u201d", 0, 2, api.KindNone}, {".\u201d", 0, 4, api.KindStop}, {"", 0, 0, api.KindNone}, {"", 0, 1, api.KindNone},
	} {
		if got := sentence.Kind(x.s, x.from, x.to); got != x.want {
			t.Errorf("%q from %d to %d: %d; want %d", x.s, x.from, x.to, got, x.want)
		}
	}
}

// TestP13_2Every has Trim and Kind at every two places of rows of classes, and of texts of any runes and bytes.
func TestP13_2Every(t *testing.T) {
	d := plain(t).Db()
	for long := range 3 {
		for s := range rows(long, all()...) {
			heldTrimmed(t, d, s)
		}
	}
	for _, classes := range [][]int{{stop, term, closing, sp}, {stop, term, extend, cr, lower}, {sp, sep, lf, cr, other}, {stop, extend, sp, sep, on}} {
		for long := 3; long <= 4; long++ {
			for s := range rows(long, classes...) {
				heldTrimmed(t, d, s)
			}
		}
	}
	r := rand.New(rand.NewSource(1322))
	for range 1500 {
		heldTrimmed(t, d, someText(r, 8))
	}
}

// TestP13_2First has fewer, just as many and more sentences than there are, 0, and numbers below 0.
func TestP13_2First(t *testing.T) {
	for _, x := range []struct {
		s    string
		n    int
		want string
	}{
		{"A. B. C", 2, "A. B. "}, {"A. B. C", 1, "A. "}, {"A. B. C", 3, "A. B. C"}, {"A. B. C", 4, "A. B. C"}, {"A. B. C", math.MaxInt, "A. B. C"},
		{"A. B. C", 0, ""}, {"A. B. C", -1, ""}, {"A. B. C", math.MinInt, ""}, {"", 0, ""}, {"", 1, ""}, {"", -1, ""}, {"", math.MaxInt, ""},
		{"\xff. B", 1, "\xff. "}, {"\xff", 1, "\xff"}, {"\xff\xc3", 2, "\xff\xc3"}, {"\r\n\n", 1, "\r\n"}, {"\r\n\n", 2, "\r\n\n"}, {"A.\n", 1, "A.\n"}, {"A.\n", 2, "A.\n"},
	} {
		if got := sentence.First(x.s, x.n); got != x.want {
			t.Errorf("%q, %d: %q; want %q", x.s, x.n, got, x.want)
		}
	}
	b := plain(t)
	r := rand.New(rand.NewSource(132))
	for range 3000 {
		s := someText(r, 14)
		for _, n := range []int{math.MinInt, -1, 0, 1, 2, 3, 4, sentence.Count(s) - 1, sentence.Count(s), sentence.Count(s) + 1, math.MaxInt} {
			if got, want := sentence.First(s, n), plainFirst(b, s, n); got != want {
				t.Fatalf("%q, %d: %q; want %q", s, n, got, want)
			}
		}
	}
}
