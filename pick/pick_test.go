package pick_test

import (
	"math"
	"math/rand"
	"slices"
	"testing"

	"kerf/api"
	"kerf/pick"
)

// two is a pick by its ends, that keeps no column; of is several, with the number of the main one.
func two(anchor, head int) api.Pick { return api.Pick{Anchor: anchor, Head: head, Goal: -1} }

func of(main int, l ...api.Pick) api.Picks { return api.Picks{L: l, Main: main} }

const (
	least = math.MinInt
	most  = math.MaxInt
)

func TestP24_1(t *testing.T) {
	for _, x := range []struct {
		s       string
		p, want api.Picks
	}{
		{"abcdef", of(0, two(4, 2), two(1, 3), two(6, 6)), of(0, two(4, 1), two(6, 6))}, // the examples
		{"abcdef", of(0, two(0, 2), two(2, 4)), of(0, two(0, 2), two(2, 4))},
		{"abcdef", of(0, two(0, 2), two(2, 2), two(2, 4)), of(0, two(0, 2), two(2, 4))},
		{"e\u0301x", of(0, two(2, 3)), of(0, two(0, 3))},

		{"", of(0), of(0)}, // none
		{"abc", of(7), of(0)},
		{"abc", of(-7), of(0)},
		{"", of(0, two(5, -5)), of(0, two(0, 0))},
		{"", of(1, two(5, -5), two(1, 1), two(0, 0)), of(0, two(0, 0))},

		{"abcdef", of(3, two(4, 5), two(0, 1), two(2, 3)), of(2, two(0, 1), two(2, 3), two(4, 5))}, // no such main one: the first
		{"abcdef", of(-1, two(4, 5), two(0, 1), two(2, 3)), of(2, two(0, 1), two(2, 3), two(4, 5))},
		{"abcdef", of(most, two(4, 5), two(0, 1)), of(1, two(0, 1), two(4, 5))},
		{"abcdef", of(least, two(4, 5), two(0, 1)), of(1, two(0, 1), two(4, 5))},
		{"abcdef", of(1, two(4, 5), two(0, 1), two(2, 3)), of(0, two(0, 1), two(2, 3), two(4, 5))},
		{"abcdef", of(2, two(4, 5), two(1, 0), two(3, 2)), of(1, two(1, 0), two(3, 2), two(4, 5))},

		{"abc", of(0, two(-4, 9)), of(0, two(0, 3))}, // beyond the ends
		{"abc", of(0, two(most, least)), of(0, two(3, 0))},
		{"abc", of(1, two(9, 7), two(-3, -1)), of(0, two(0, 0), two(3, 3))},
		{"e\u0301x", of(0, two(1, 2)), of(0, two(0, 0))}, // within a letter
		{"e\u0301x", of(0, two(4, 1)), of(0, two(4, 0))},
		{"a\r\nb", of(0, two(2, 4)), of(0, two(1, 4))},
		{"a\xe2\x82b", of(0, two(1, 2)), of(0, two(1, 2))}, // each fault is a letter
		{"\U0001f1e6\U0001f1e7\U0001f1e8", of(0, two(7, 11)), of(0, two(0, 8))},

		{"abcdef", of(2, two(2, 4), two(4, 2), two(6, 6)), of(1, two(2, 4), two(6, 6))}, // as the first runs
		{"abcdef", of(2, two(4, 2), two(2, 4), two(6, 6)), of(1, two(4, 2), two(6, 6))},
		{"abcdef", of(2, two(3, 3), two(4, 2), two(6, 6)), of(1, two(4, 2), two(6, 6))},
		{"abcdef", of(2, two(3, 3), two(5, 3), two(6, 6)), of(1, two(5, 3), two(6, 6))}, // the first is empty
		{"abcdef", of(2, two(3, 3), two(3, 5), two(6, 6)), of(1, two(3, 5), two(6, 6))},
		{"abcdef", of(2, two(1, 3), two(4, 2), two(6, 6)), of(1, two(1, 4), two(6, 6))},
		{"abcdef", of(2, two(1, 3), two(3, 3), two(6, 6)), of(1, two(1, 3), two(6, 6))},
		{"abcdef", of(1, two(1, 3), two(4, 2)), of(0, two(4, 1))}, // as the main one runs
		{"abcdef", of(1, two(3, 1), two(2, 4)), of(0, two(1, 4))},
		{"abcdef", of(0, two(1, 3), two(4, 2)), of(0, two(1, 4))},
		{"abcdef", of(0, two(3, 3), two(5, 3)), of(0, two(3, 5))}, // though it is empty
		{"abcdef", of(1, two(5, 3), two(3, 3)), of(0, two(3, 5))},
		{"abcdef", of(1, two(5, 2), two(5, 5)), of(0, two(2, 5))},
		{"abcdef", of(2, two(1, 3), two(2, 4), two(5, 3)), of(0, two(5, 1))}, // one behind the other
		{"abcdef", of(0, two(0, 6), two(2, 1), two(5, 4), two(6, 6)), of(0, two(0, 6))},

		{"abcdef", of(0, two(3, 3), two(3, 3)), of(0, two(3, 3))},
		{"abcdef", of(1, two(3, 3), two(4, 4)), of(1, two(3, 3), two(4, 4))},
		{"abcdef", of(1, two(2, 4), two(4, 4)), of(0, two(2, 4))},
		{"abcdef", of(1, two(2, 4), two(2, 2)), of(0, two(2, 4))},
		{"abcdef", of(1, two(4, 4), two(6, 4), two(2, 4)), of(1, two(2, 4), two(6, 4))}, // the empty one goes to the one ahead
	} {
		same(t, pick.Norm(x.s, x.p), x.want, "Norm", x.s, x.p)
		same(t, plainNorm(x.s, x.p), x.want, "the plain Norm", x.s, x.p)
	}
}

// TestP24_1Goal is that columns are kept, but not of picks that were made one.
func TestP24_1Goal(t *testing.T) {
	for _, goal := range goals {
		p := of(1, api.Pick{Anchor: 4, Head: 5, Goal: goal}, api.Pick{Anchor: 9, Head: -9, Goal: 3}, api.Pick{Anchor: 2, Head: 2, Goal: goal})
		same(t, pick.Norm("abc", of(0, p.L[0])), of(0, api.Pick{Anchor: 3, Head: 3, Goal: goal}), "Norm", goal)
		same(t, pick.Norm("abcdef", of(0, p.L[0], p.L[2])), of(1, p.L[2], p.L[0]), "Norm", goal)
		same(t, pick.Norm("abcdef", p), of(0, two(6, 0)), "Norm", goal)
		same(t, pick.Norm("abcdef", of(0, p.L[2], p.L[2])), of(0, two(2, 2)), "Norm", goal)
	}
}

// TestP24_1All has all that two or three picks may be, in short texts and beside them.
func TestP24_1All(t *testing.T) {
	for _, s := range []string{"", "a", "abc", "e\u0301x", "\u200d\r\n"} {
		low, high := -1, len(s)+1
		for l := range lists(2, low, high) {
			for main := -1; main <= 2; main++ {
				same(t, pick.Norm(s, of(main, l...)), plainNorm(s, of(main, l...)), "Norm", s, l, main)
			}
		}
	}
	for l := range lists(3, 0, 3) {
		for main := range 3 {
			same(t, pick.Norm("abc", of(main, l...)), plainNorm("abc", of(main, l...)), "Norm", "abc", l, main)
		}
	}
}

func TestP24_1Any(t *testing.T) {
	r := rand.New(rand.NewSource(241))
	for range 40000 {
		s := someText(r, 12)
		p := somePicks(r, s)
		same(t, pick.Norm(s, p), plainNorm(s, p), "Norm", s, p)
	}
}

func TestP24_2(t *testing.T) {
	for _, x := range []struct {
		s    string
		p    api.Picks
		want []string
	}{
		{"abcd", of(0, two(3, 1), two(0, 0)), []string{"", "bc"}},
		{"abcd", of(0), nil},
		{"", of(0), nil},
		{"", of(0, two(-1, 4)), []string{""}},
		{"abcd", of(1, two(2, 9), two(2, -9)), []string{"ab", "cd"}},
		{"abcd", of(1, two(1, 3), two(2, 4)), []string{"bcd"}},
		{"e\u0301x", of(0, two(2, 4)), []string{"e\u0301x"}},
		{"e\u0301x", of(0, two(0, 2)), []string{""}},
		{"\xe2\x82\xac\xff", of(0, two(3, 4), two(2, 3)), []string{"\u20ac", "\xff"}},
	} {
		if got := pick.Texts(x.s, x.p); !slices.Equal(got, x.want) {
			t.Errorf("Texts(%q, %v): %q", x.s, x.p, got)
		}
	}
	r := rand.New(rand.NewSource(242))
	for range 20000 {
		s := someText(r, 12)
		p := somePicks(r, s)
		if got, want := pick.Texts(s, p), plainTexts(s, p); !slices.Equal(got, want) {
			t.Fatalf("Texts(%q, %v): %q; want %q", s, p, got, want)
		}
		i := 0
		for from, to := range pick.Each(s, p) {
			x := plainNorm(s, p).L[i]
			if from != min(x.Anchor, x.Head) || to != max(x.Anchor, x.Head) {
				t.Fatalf("Each(%q, %v): %d, %d", s, p, from, to)
			}
			i++
		}
		if i != len(plainNorm(s, p).L) {
			t.Fatalf("Each(%q, %v): %d", s, p, i)
		}
	}
}

// TestP24_2Each is that what is gone over may be left, gone over again and nested, and is as it was at the call.
func TestP24_2Each(t *testing.T) {
	p := of(0, two(5, 3), two(0, 1), two(2, 2))
	all := pick.Each("abcdef", p)
	p.L[0], p.L[1] = two(0, 6), two(0, 6)
	want := [][2]int{{0, 1}, {2, 2}, {3, 5}}
	for most := range 4 {
		var got [][2]int
		for from, to := range all {
			if len(got) == most {
				break
			}
			got = append(got, [2]int{from, to})
		}
		if !slices.Equal(got, want[:most]) {
			t.Errorf("%d: %v", most, got)
		}
	}
	i := 0
	for from, to := range all {
		for f, g := range all {
			if got := [4]int{from, to, f, g}; got != [4]int{want[i/3][0], want[i/3][1], want[i%3][0], want[i%3][1]} {
				t.Errorf("%d: %v", i, got)
			}
			i++
		}
	}
	if i != 9 {
		t.Error(i)
	}
	for range pick.Each("abc", of(0)) {
		t.Error("there is none")
	}
	for range pick.Each("", api.Picks{}) {
		t.Error("there is none")
	}
}

func TestP24_3(t *testing.T) {
	const s = "abc\nd\nefg"
	for _, x := range []struct {
		s    string
		p    api.Picks
		m    api.Motion
		keep bool
		want api.Picks
	}{
		{"ab cd", of(0, two(0, 1)), api.Motion{Kind: api.ToWord, N: 1}, true, of(0, two(0, 2))},
		{"ab cd", of(0, two(0, 1)), api.Motion{Kind: api.ToWord, N: 1}, false, of(0, two(2, 2))},
		{"ab cd", of(0, two(1, 4)), api.Motion{Kind: api.ToWord, N: -2}, true, of(0, two(1, 0))}, // past the end that stays
		{"ab cd", of(0, two(1, 3)), api.Motion{Kind: api.ToLetter, N: -2}, true, of(0, two(1, 1))},
		{"ab cd", of(1, two(0, 0), two(4, 4)), api.Motion{Kind: api.ToLetter, N: 1}, false, of(1, two(1, 1), two(5, 5))},
		{"ab cd", of(1, two(0, 0), two(1, 1), two(3, 3)), api.Motion{Kind: api.ToHome}, false, of(0, two(0, 0))}, // all come to one place
		{"ab cd", of(1, two(0, 1), two(3, 3)), api.Motion{Kind: api.ToEnd}, true, of(0, two(0, 5))},
		{"ab cd", of(1, two(1, 0), two(3, 2)), api.Motion{Kind: api.ToLetter, N: -1}, true, of(1, two(1, 0), two(3, 1))},
		{"ab cd", of(0, two(1, 2), two(4, 3)), api.Motion{Kind: api.ToLetter, N: -9}, true, of(0, two(4, 0))},
		{"ab cd", of(1, two(0, 2), two(4, 3)), api.Motion{Kind: api.ToBegin}, true, of(0, two(4, 0))},
		{"ab cd", of(0, two(0, 2), two(4, 3)), api.Motion{Kind: api.ToBegin}, true, of(0, two(0, 4))},
		{"ab cd", of(0, two(2, 1), two(4, 3)), api.Motion{Kind: api.ToLast}, true, of(0, two(2, 5))},
		{s, of(0, two(2, 2)), api.Motion{Kind: api.ToRow, N: 1}, false, of(0, api.Pick{Anchor: 5, Head: 5, Goal: 2})},
		{s, of(0, api.Pick{Anchor: 5, Head: 5, Goal: 2}), api.Motion{Kind: api.ToRow, N: 1}, false, of(0, api.Pick{Anchor: 8, Head: 8, Goal: 2})},
		{s, of(0, api.Pick{Anchor: 1, Head: 5, Goal: 2}), api.Motion{Kind: api.ToRow, N: 1}, true, of(0, api.Pick{Anchor: 1, Head: 8, Goal: 2})},
		{s, of(0, api.Pick{Anchor: 1, Head: 5, Goal: 2}), api.Motion{Kind: api.ToLetter, N: 1}, true, of(0, two(1, 6))},
		{s, of(1, two(1, 1), two(4, 4)), api.Motion{Kind: api.ToRow, N: 9}, false, of(0, api.Pick{Anchor: 6, Head: 6, Goal: 0}, api.Pick{Anchor: 7, Head: 7, Goal: 1})},
		{s, of(0, api.Pick{Anchor: 1, Head: 5, Goal: 7}), api.Motion{Kind: 99, N: 1}, true, of(0, api.Pick{Anchor: 1, Head: 5, Goal: 7})}, // no kind
		{s, of(0, api.Pick{Anchor: 1, Head: 5, Goal: 7}), api.Motion{Kind: -1, N: 1}, false, of(0, api.Pick{Anchor: 5, Head: 5, Goal: 7})},
		{s, of(0, api.Pick{Anchor: 1, Head: 5, Goal: least}), api.Motion{Kind: least, N: least}, false, of(0, api.Pick{Anchor: 5, Head: 5, Goal: least})},
		{"", of(3), api.Motion{Kind: api.ToWord, N: 1}, false, of(0)},
		{"", of(0, two(7, -7)), api.Motion{Kind: api.ToWord, N: 1}, true, of(0, two(0, 0))},
		{"e\u0301x", of(0, two(2, 2)), api.Motion{Kind: api.ToLetter, N: 1}, true, of(0, two(0, 3))},
	} {
		same(t, pick.Move(x.s, x.p, x.m, x.keep, o8), x.want, "Move", x.s, x.p, x.m, x.keep)
	}
}

func TestP24_3Any(t *testing.T) {
	r := rand.New(rand.NewSource(243))
	for i := range 20000 {
		s := someText(r, 12)
		p, m, o := somePicks(r, s), someMotion(r), someCells(r)
		same(t, pick.Move(s, p, m, i%2 == 0, o), plainMove(s, p, m, i%2 == 0, o), "Move", s, p, m, i%2 == 0, o)
	}
}
