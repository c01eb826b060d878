package pick_test

import (
	"math/rand"
	"slices"
	"testing"

	"kerf/api"
	"kerf/pick"
)

func TestP24_4(t *testing.T) {
	for _, x := range []struct {
		s    string
		p    api.Picks
		kind int
		want api.Picks
	}{
		{"ab cd", of(0, two(1, 1)), api.ToWord, of(0, two(0, 2))}, // the examples
		{"ab cd", of(0, two(2, 2)), api.ToWord, of(0, two(2, 3))},
		{"ab cd", of(0, two(5, 5)), api.ToWord, of(0, two(3, 5))},

		{"ab cd", of(0, two(0, 0)), api.ToWord, of(0, two(0, 2))},
		{"ab cd", of(0, two(4, 1)), api.ToWord, of(0, two(5, 0))}, // it runs as it ran
		{"ab cd", of(0, two(1, 2)), api.ToWord, of(0, two(0, 2))},
		{"ab cd", of(0, two(2, 3)), api.ToWord, of(0, two(2, 3))},
		{"ab cd", of(0, two(0, 5)), api.ToWord, of(0, two(0, 5))},
		{"ab cd", of(1, two(1, 0), two(2, 1)), api.ToWord, of(0, two(2, 0))}, // they come to be one
		{"ab cd", of(1, two(1, 1), two(3, 3)), api.ToWord, of(1, two(0, 2), two(3, 5))},
		{"ab cd", of(2, two(1, 1), two(2, 2), two(3, 3)), api.ToWord, of(2, two(0, 2), two(2, 3), two(3, 5))}, // they only touch
		{"ab cd", of(0, two(-9, 99)), api.ToWord, of(0, two(0, 5))},
		{"a\u0903b", of(0, two(0, 0)), api.ToWord, of(0, two(0, 0))}, // the word ends within the letter that it begins
		{"a\u0903b", of(0, two(4, 4)), api.ToWord, of(0, two(4, 5))},
		{"a\u0903b", of(0, two(0, 4)), api.ToWord, of(0, two(0, 4))},
		{"ca\u0903b", of(0, two(0, 0)), api.ToWord, of(0, two(0, 1))}, // the word's end lies within a letter
		{"ca\u0903b", of(0, two(1, 1)), api.ToWord, of(0, two(0, 1))}, // so that what stood behind the end stands at it

		{"e\u0301x", of(0, two(2, 2)), api.ToLetter, of(0, two(0, 3))},
		{"e\u0301x", of(0, two(3, 3)), api.ToLetter, of(0, two(3, 4))},
		{"e\u0301x", of(0, two(4, 4)), api.ToLetter, of(0, two(3, 4))},
		{"e\u0301xy", of(0, two(4, 2)), api.ToLetter, of(0, two(4, 0))},
		{"\xe2\x82", of(0, two(1, 1)), api.ToLetter, of(0, two(1, 2))},

		{"A b. C d. E", of(0, two(7, 7)), api.ToSentence, of(0, two(5, 10))},
		{"A b. C d. E", of(0, two(5, 5)), api.ToSentence, of(0, two(5, 10))},
		{"A b. C d. E", of(0, two(6, 4)), api.ToSentence, of(0, two(10, 0))},
		{"A b. C d. E", of(0, two(11, 11)), api.ToSentence, of(0, two(10, 11))},

		{"a\nb", of(0, two(2, 2)), api.ToLine, of(0, two(2, 3))},
		{"a\nb", of(0, two(1, 1)), api.ToLine, of(0, two(0, 2))},
		{"a\nb", of(0, two(2, 0)), api.ToLine, of(0, two(2, 0))},
		{"a\nb", of(0, two(1, 3)), api.ToLine, of(0, two(0, 3))},
		{"a\r\n", of(0, two(3, 3)), api.ToLine, of(0, two(0, 3))}, // the last line is empty: no bound is above
		{"a\r\nb\u2028", of(0, two(2, 2)), api.ToLine, of(0, two(0, 3))},
		{"\n\n", of(0, two(1, 1)), api.ToLine, of(0, two(1, 2))},
		{"\n\n", of(0, two(2, 2)), api.ToLine, of(0, two(1, 2))},
		{"a", of(0, two(1, 1)), api.ToLine, of(0, two(0, 1))},

		{"ab", of(0), api.ToWord, of(0)},
		{"ab", of(5), api.ToLine, of(0)},
	} {
		same(t, pick.Grow(x.s, x.p, x.kind), x.want, "Grow", x.s, x.p, x.kind)
		same(t, plainGrow(x.s, x.p, x.kind), x.want, "the plain Grow", x.s, x.p, x.kind)
	}
}

// TestP24_4Kinds is that of a kind that is none picks only stand in their order, with their columns; of the others they lose them, in the empty text too.
func TestP24_4Kinds(t *testing.T) {
	for _, kind := range every {
		for s, want := range map[string]api.Picks{"": of(0, two(0, 0)), "a": of(0, two(1, 0))} {
			goal := -1
			if !slices.Contains(grows, kind) {
				goal = 4
			}
			want.L[0].Goal = goal
			same(t, pick.Grow(s, of(7, api.Pick{Anchor: 9, Head: -1, Goal: 4}), kind), want, "Grow", s, kind)
		}
	}
}

func TestP24_4All(t *testing.T) {
	for long := range 5 {
		for s := range rows(long, "a", " ", ".", "\u0903", "\r", "\n") {
			for at := -1; at <= len(s)+1; at++ {
				for _, kind := range grows {
					for _, p := range []api.Picks{of(0, two(at, at)), of(0, two(at, at+1)), of(1, two(at, 1), two(2, 2))} {
						same(t, pick.Grow(s, p, kind), plainGrow(s, p, kind), "Grow", s, p, kind)
					}
				}
			}
		}
	}
	r := rand.New(rand.NewSource(244))
	for range 30000 {
		s := someText(r, 12)
		p, kind := somePicks(r, s), some(r, every)
		same(t, pick.Grow(s, p, kind), plainGrow(s, p, kind), "Grow", s, p, kind)
	}
}

func TestP24_5Lines(t *testing.T) {
	for _, x := range []struct {
		s       string
		p, want api.Picks
	}{
		{"ab\ncd", of(0, two(1, 4)), of(0, two(1, 2), two(3, 4))}, // the example
		{"ab\ncd", of(0, two(4, 1)), of(0, two(2, 1), two(4, 3))},
		{"ab\ncd", of(0, two(0, 3)), of(0, two(0, 2))}, // nothing of the second line
		{"ab\ncd", of(0, two(2, 3)), of(0, two(2, 2))},
		{"ab\ncd", of(0, two(2, 4)), of(0, two(2, 2), two(3, 4))},
		{"ab\ncd", of(0, two(3, 3)), of(0, two(3, 3))},
		{"ab\ncd", of(0, two(2, 2)), of(0, two(2, 2))},
		{"ab\ncd", of(0, two(5, 3)), of(0, two(5, 3))},
		{"ab\r\ncd", of(0, two(0, 3)), of(0, two(0, 2))},
		{"ab\r\ncd", of(0, two(3, 6)), of(0, two(2, 2), two(4, 6))},
		{"\n\n", of(0, two(0, 2)), of(0, two(0, 0), two(1, 1))},
		{"\n\n", of(0, two(2, 2)), of(0, two(2, 2))},
		{"a\u2028b\u0085c\vd\f\r", of(0, two(-1, 99)), of(0, two(0, 1), two(4, 5), two(7, 8), two(9, 10), two(11, 11))},
		{"ab\ncd\nef", of(1, two(0, 1), two(7, 1), two(9, 9)), of(1, two(0, 1), two(2, 1), two(5, 3), two(7, 6), two(8, 8))},
		{"ab\ncd", of(1, two(0, 1), two(1, 5)), of(1, two(0, 1), two(1, 2), two(3, 5))},
		{"ab\ncd", of(1, two(1, 2), two(5, 2)), of(0, two(1, 2), two(5, 3))}, // the main one's first is empty, and meets the one ahead
		{"ab\ncd", of(1, two(2, 1), two(2, 5)), of(0, two(1, 2), two(3, 5))},
		{"ab", of(4), of(0)},
		{"", of(0, two(4, 4)), of(0, two(0, 0))},
	} {
		same(t, pick.Lines(x.s, x.p), x.want, "Lines", x.s, x.p)
		same(t, plainLines(x.s, x.p), x.want, "the plain Lines", x.s, x.p)
	}
	p := of(0, api.Pick{Anchor: 0, Head: 1, Goal: 7})
	same(t, pick.Lines("ab", p), of(0, two(0, 1)), "Lines", "a column", p)
}

func TestP24_5LinesAll(t *testing.T) {
	for long := range 6 {
		for s := range rows(long, "a", "\r", "\n") {
			for l := range lists(1, 0, len(s)) {
				same(t, pick.Lines(s, of(0, l...)), plainLines(s, of(0, l...)), "Lines", s, l)
			}
		}
	}
	for s := range rows(4, "a", "\n") {
		for l := range lists(2, 0, len(s)) {
			for main := range 2 {
				same(t, pick.Lines(s, of(main, l...)), plainLines(s, of(main, l...)), "Lines", s, l, main)
			}
		}
	}
	r := rand.New(rand.NewSource(245))
	for range 30000 {
		s := someText(r, 12)
		p := somePicks(r, s)
		same(t, pick.Lines(s, p), plainLines(s, p), "Lines", s, p)
	}
}

func TestP24_5Rest(t *testing.T) {
	for _, x := range []struct {
		s       string
		p, want api.Picks
	}{
		{"abc", of(0, two(1, 2)), of(0, two(0, 1), two(2, 3))}, // the example
		{"abc", of(0), of(0, two(0, 3))},
		{"abc", of(4), of(0, two(0, 3))},
		{"", of(0), of(0)},
		{"", of(0, two(0, 0)), of(0)},
		{"abc", of(0, two(0, 3)), of(0)},
		{"abc", of(0, two(9, -9)), of(0)},
		{"abc", of(1, two(3, 2), two(0, 1)), of(0, two(1, 2))},
		{"abc", of(1, two(0, 1), two(1, 3)), of(0)},
		{"abc", of(1, two(0, 0), two(1, 1), two(3, 3)), of(0, two(0, 1), two(1, 3))}, // what is empty parts the rest
		{"abcdef", of(2, two(5, 4), two(2, 1), two(3, 3)), of(0, two(0, 1), two(2, 3), two(3, 4), two(5, 6))},
		{"e\u0301x", of(0, two(1, 2)), of(0, two(0, 4))},
		{"e\u0301x", of(0, two(1, 3)), of(0, two(3, 4))},
	} {
		same(t, pick.Rest(x.s, x.p), x.want, "Rest", x.s, x.p)
		same(t, plainRest(x.s, x.p), x.want, "the plain Rest", x.s, x.p)
	}
	r := rand.New(rand.NewSource(2451))
	for range 30000 {
		s := someText(r, 12)
		p := somePicks(r, s)
		same(t, pick.Rest(s, p), plainRest(s, p), "Rest", s, p)
	}
}

func TestP24_5Found(t *testing.T) {
	for _, x := range []struct {
		s, t string
		o    api.Find
		want api.Picks
	}{
		{"a-b-c", "-", api.Find{}, of(0, two(1, 2), two(3, 4))},
		{"aaaa", "aa", api.Find{}, of(0, two(0, 2), two(2, 4))},
		{"aaa", "aa", api.Find{}, of(0, two(0, 2))},
		{"abc", "", api.Find{}, of(0)},
		{"abc", "d", api.Find{}, of(0)},
		{"", "", api.Find{}, of(0)},
		{"Stra\u00dfe", "SS", api.Find{Fold: true}, of(0, two(4, 6))},
		{"cat concat", "cat", api.Find{Words: true}, of(0, two(0, 3))},
		{"e\u0301e", "e", api.Find{Letters: true}, of(0, two(3, 4))},
		{"e\u0301e", "e", api.Find{}, of(0, two(0, 0), two(3, 4))}, // never within a letter
		{"e\u0301e", "\u0301", api.Find{}, of(0, two(0, 3))},
		{"e\u0301\u0301e", "\u0301", api.Find{}, of(0, two(0, 5))}, // the first is empty then, and meets the second
		{"x\u20ac\xe2", "\xe2", api.Find{}, of(0, two(4, 5))},
	} {
		same(t, pick.Found(x.s, x.t, x.o), x.want, "Found", x.s, x.t, x.o)
	}
	r := rand.New(rand.NewSource(2452))
	for range 30000 {
		s := someText(r, 10)
		u := someText(r, 2)
		if len(s) > 0 && r.Intn(2) == 0 {
			at := r.Intn(len(s))
			u = s[at : at+r.Intn(len(s)-at+1)]
		}
		o := api.Find{Fold: r.Intn(2) == 0, Letters: r.Intn(3) == 0, Words: r.Intn(3) == 0}
		same(t, pick.Found(s, u, o), plainFound(s, u, o), "Found", s, u, o)
	}
}

func TestP24_6(t *testing.T) {
	type spot = api.Spot
	const s = "abc\nd\nefg"
	for _, x := range []struct {
		s    string
		a, b spot
		o    api.Cells
		want api.Picks
	}{
		{s, spot{Row: 0, Col: 1}, spot{Row: 2, Col: 3}, o8, of(2, two(1, 3), two(5, 5), two(7, 9))}, // the example
		{s, spot{Row: 2, Col: 3}, spot{Row: 0, Col: 1}, o8, of(0, two(3, 1), two(5, 5), two(9, 7))},
		{s, spot{Row: 0, Col: 3}, spot{Row: 2, Col: 1}, o8, of(2, two(3, 1), two(5, 5), two(9, 7))},
		{s, spot{Row: 1, Col: 0}, spot{Row: 1, Col: 1}, o8, of(0, two(4, 5))},
		{s, spot{Row: 1, Col: 9}, spot{Row: 2, Col: 9}, o8, of(1, two(5, 5), two(9, 9))},
		{s, spot{Row: -5, Col: 0}, spot{Row: 1, Col: 1}, o8, of(1, two(0, 1), two(4, 5))}, // those that there are
		{s, spot{Row: 1, Col: 0}, spot{Row: -5, Col: 1}, o8, of(0, two(0, 1), two(4, 5))},
		{s, spot{Row: 1, Col: 0}, spot{Row: 9, Col: 1}, o8, of(0, two(4, 5), two(6, 7))},
		{s, spot{Row: 9, Col: 0}, spot{Row: 2, Col: 1}, o8, of(0, two(6, 7))},
		{s, spot{Row: least, Col: least}, spot{Row: most, Col: most}, o8, of(0, two(0, 3), two(4, 5), two(6, 9))},
		{s, spot{Row: 3, Col: 0}, spot{Row: 9, Col: 1}, o8, of(0)},
		{s, spot{Row: -3, Col: 0}, spot{Row: -1, Col: 1}, o8, of(0)},
		{s, spot{Row: 0, Col: -1}, spot{Row: 0, Col: 2}, o8, of(0, two(0, 2))},
		{"", spot{}, spot{}, o8, of(0, two(0, 0))},
		{"", spot{Row: 1}, spot{Row: 1}, o8, of(0)},
		{"\n", spot{}, spot{Row: 1}, o8, of(1, two(0, 0), two(1, 1))},
		{"a\u4e00b\r\ne\u0301f\r\n\tg", spot{Row: 0, Col: 2}, spot{Row: 2, Col: 8}, o8, of(2, two(1, 5), two(11, 11), two(13, 14))},
		{"\u4e00\n\xff\xe2\x82", spot{Row: 0, Col: 1}, spot{Row: 1, Col: 2}, o8, of(1, two(0, 3), two(5, 6))},
		{"ab\ncd", spot{Row: 0, Col: 3}, spot{Row: 1, Col: 2}, api.Cells{Ambiguous: 1, Tab: 3, Start: 2}, of(1, two(1, 0), two(4, 3))},
		{s, spot{Row: 0, Col: 1}, spot{Row: 2, Col: 3}, api.Cells{}, of(0)}, // refused
		{s, spot{Row: 0, Col: 1}, spot{Row: 2, Col: 3}, api.Cells{Ambiguous: 1, Tab: 8, Start: -1}, of(0)},
	} {
		same(t, pick.Block(x.s, x.a, x.b, x.o), x.want, "Block", x.s, x.a, x.b, x.o)
	}
	r := rand.New(rand.NewSource(246))
	row := func() int {
		if r.Intn(10) == 0 {
			return some(r, []int{least, most})
		}
		return r.Intn(9) - 2
	}
	for range 30000 {
		s := someText(r, 14)
		a, b, o := spot{Row: row(), Col: row()}, spot{Row: row(), Col: row()}, someCells(r)
		same(t, pick.Block(s, a, b, o), plainBlock(s, a, b, o), "Block", s, a, b, o)
	}
}
