package pick_test

import (
	"math/rand"
	"slices"
	"testing"

	"kerf/api"
	"kerf/edit"
	"kerf/pick"
)

// changeOf is a change of a text of n bytes.
func changeOf(n int, l ...api.Edit) api.Change { return api.Change{Len: n, Edits: l} }

func TestP24_7(t *testing.T) {
	laid := changeOf(4, api.Edit{From: 1, To: 1, Text: "x"})
	parted := changeOf(6, api.Edit{From: 1, To: 2, Text: "x"}, api.Edit{From: 2, To: 2}, api.Edit{From: 2, To: 4, Text: "yz"})
	for _, x := range []struct {
		s       string
		c       api.Change
		p, want api.Picks
	}{
		{"abcd", laid, of(0, two(1, 3)), of(0, two(2, 4))}, // the example
		{"abcd", laid, of(0, two(3, 1)), of(0, two(4, 2))},
		{"abcd", laid, of(0, two(0, 1)), of(0, two(0, 1))}, // what is laid in at an end is not picked out
		{"abcd", laid, of(0, two(0, 2)), of(0, two(0, 3))},
		{"abcd", laid, of(0, two(1, 1)), of(0, two(2, 2))},
		{"abcd", laid, of(1, two(0, 1), two(1, 3)), of(1, two(0, 1), two(2, 4))},
		{"abcd", changeOf(4), of(1, two(3, 9), two(2, 0)), of(0, two(2, 0), two(3, 4))},

		{"abcdef", parted, of(0, two(0, 6)), of(0, two(0, 6))},
		{"abcdef", parted, of(0, two(2, 3)), of(0, two(1, 1))}, // all of it is gone: From's place is above To's
		{"abcdef", parted, of(0, two(3, 2)), of(0, two(1, 1))},
		{"abcdef", parted, of(0, two(2, 2)), of(0, two(4, 4))},
		{"abcdef", parted, of(0, two(1, 4)), of(0, two(1, 1))},
		{"abcdef", parted, of(0, two(0, 3)), of(0, two(0, 1))},
		{"abcdef", parted, of(0, two(5, 3)), of(0, two(5, 4))},
		{"abcdef", parted, of(1, two(0, 1), two(5, 4)), of(1, two(0, 1), two(5, 4))},
		{"abcdef", parted, of(1, two(1, 2), two(3, 4), two(2, 2)), of(0, two(1, 1))},

		{"abcd", changeOf(4, api.Edit{From: 0, To: 4}), of(1, two(0, 1), two(3, 2)), of(0, two(0, 0))}, // they come to be one
		{"abcd", changeOf(4, api.Edit{From: 1, To: 3}), of(1, two(0, 1), two(4, 3)), of(1, two(0, 1), two(2, 1))},
		{"abcd", changeOf(4, api.Edit{From: 1, To: 3}), of(1, two(0, 1), two(2, 2), two(4, 3)), of(0, two(0, 1), two(2, 1))},
		{"ab", changeOf(2, api.Edit{From: 1, To: 1, Text: "\u0301"}), of(0, two(0, 1)), of(0, two(0, 0))}, // its end came to stand within a letter
		{"ab", changeOf(2, api.Edit{From: 1, To: 1, Text: "\u0301"}), of(0, two(1, 2)), of(0, two(3, 4))},
		{"e\u0301x", changeOf(4, api.Edit{From: 0, To: 1}), of(0, two(2, 3)), of(0, two(0, 2))}, // in the text of the change first: all of the letter
		{"", changeOf(0, api.Edit{Text: "abc"}), of(0, two(0, 0)), of(0, two(3, 3))},
		{"", api.Change{}, of(5), of(0)},
		{"abcd", laid, of(5), of(0)},
	} {
		got, e := pick.Through(x.s, x.c, x.p)
		if same(t, got, x.want, "Through", x.s, x.c, x.p); e != api.OK {
			t.Errorf("Through(%q, %v, %v): %d", x.s, x.c, x.p, e)
		}
		got, e = plainThrough(x.s, x.c, x.p)
		if same(t, got, x.want, "the plain Through", x.s, x.c, x.p); e != api.OK {
			t.Errorf("the plain Through(%q, %v, %v): %d", x.s, x.c, x.p, e)
		}
	}
	p := of(0, api.Pick{Anchor: 1, Head: 3, Goal: 5})
	got, _ := pick.Through("abcd", changeOf(4), p)
	same(t, got, of(0, two(1, 3)), "Through", "a column")
}

// TestP24_7Refused is what Apply refuses: a change that is none ahead of one of another length.
func TestP24_7Refused(t *testing.T) {
	for _, x := range []struct {
		c    api.Change
		want api.Errno
	}{
		{changeOf(3), api.ErrText},
		{changeOf(5), api.ErrText},
		{changeOf(most), api.ErrText},
		{changeOf(-1), api.ErrChange},
		{changeOf(least), api.ErrChange},
		{changeOf(4, api.Edit{From: 2, To: 1}), api.ErrChange},
		{changeOf(4, api.Edit{From: -1, To: 1}), api.ErrChange},
		{changeOf(4, api.Edit{From: 4, To: 5}), api.ErrChange},
		{changeOf(3, api.Edit{From: 4, To: 5}), api.ErrChange},
		{changeOf(4, api.Edit{From: 1, To: 3}, api.Edit{From: 2, To: 3}), api.ErrChange},
	} {
		for _, p := range []api.Picks{of(0), of(3), of(1, two(0, 2), two(3, 4))} {
			if got, e := pick.Through("abcd", x.c, p); e != x.want || got.L != nil || got.Main != 0 {
				t.Errorf("Through(%v, %v): %v, %d", x.c, p, got, e)
			}
		}
	}
}

func TestP24_7Any(t *testing.T) {
	r := rand.New(rand.NewSource(247))
	for i := range 40000 {
		s := someText(r, 12)
		p, c := somePicks(r, s), someChange(r, len(s)+r.Intn(20)/19)
		if i%10 == 0 && len(c.Edits) > 0 {
			c.Edits[r.Intn(len(c.Edits))].From += r.Intn(5) - 2
		}
		got, e := pick.Through(s, c, p)
		want, f := plainThrough(s, c, p)
		if same(t, got, want, "Through", s, c, p); e != f {
			t.Fatalf("Through(%q, %v, %v): %d; want %d", s, c, p, e, f)
		}
	}
}

func TestP24_8(t *testing.T) {
	for _, x := range []struct {
		s     string
		p     api.Picks
		texts []string
		made  string
		c     api.Change
		want  api.Picks
	}{
		{"a-b-c", of(0, two(1, 2), two(3, 4)), []string{"+", "="}, "a+b=c", changeOf(5, api.Edit{From: 1, To: 2, Text: "+"}, api.Edit{From: 3, To: 4, Text: "="}), of(0, two(2, 2), two(4, 4))}, // the example
		{"a-b-c", of(1, two(4, 3), two(2, 1)), []string{"+", "="}, "a+b=c", changeOf(5, api.Edit{From: 1, To: 2, Text: "+"}, api.Edit{From: 3, To: 4, Text: "="}), of(0, two(2, 2), two(4, 4))},
		{"abc", of(2, two(0, 0), two(1, 1), two(2, 3)), []string{"x", "yz"}, "xayzbx", changeOf(3, api.Edit{Text: "x"}, api.Edit{From: 1, To: 1, Text: "yz"}, api.Edit{From: 2, To: 3, Text: "x"}), of(2, two(1, 1), two(4, 4), two(6, 6))},
		{"abc", of(0, two(0, 0), two(2, 3)), []string{"x", "y", "z"}, "xaby", changeOf(3, api.Edit{Text: "x"}, api.Edit{From: 2, To: 3, Text: "y"}), of(0, two(1, 1), two(4, 4))},
		{"abc", of(0, two(1, 2), two(3, 3)), nil, "ac", changeOf(3, api.Edit{From: 1, To: 2}), of(0, two(1, 1), two(2, 2))},
		{"abc", of(1, two(0, 1), two(2, 1)), []string{}, "c", changeOf(3, api.Edit{From: 0, To: 2}), of(0, two(0, 0))},
		{"abcd", of(1, two(0, 2), two(2, 4)), []string{"x", "y"}, "xy", changeOf(4, api.Edit{From: 0, To: 4, Text: "xy"}), of(1, two(1, 1), two(2, 2))}, // one edit in normal form
		{"abcd", of(1, two(0, 2), two(2, 4)), []string{"x", ""}, "x", changeOf(4, api.Edit{From: 0, To: 4, Text: "x"}), of(0, two(1, 1))},
		{"abcd", of(0, two(1, 1)), []string{""}, "abcd", changeOf(4), of(0, two(1, 1))},
		{"abcd", of(0, api.Pick{Anchor: 1, Head: 1, Goal: 4}), []string{"", "x"}, "abcd", changeOf(4), of(0, two(1, 1))},
		{"abcd", of(6), []string{"x"}, "abcd", changeOf(4), of(0)},
		{"", of(6), []string{"x"}, "", changeOf(0), of(0)},
		{"", of(6, two(-3, 3)), []string{"x"}, "x", changeOf(0, api.Edit{Text: "x"}), of(0, two(1, 1))},
		{"ab", of(0, two(1, 1)), []string{"\u0301"}, "a\u0301b", changeOf(2, api.Edit{From: 1, To: 1, Text: "\u0301"}), of(0, two(3, 3))},
		{"a\u0301", of(1, two(0, 0), two(3, 3)), []string{"x", "\u0301"}, "xa\u0301\u0301", changeOf(3, api.Edit{Text: "x"}, api.Edit{From: 3, To: 3, Text: "\u0301"}), of(1, two(1, 1), two(6, 6))},
		{"a\u0301", of(0, two(0, 3)), []string{"b"}, "b", changeOf(3, api.Edit{From: 0, To: 3, Text: "b"}), of(0, two(1, 1))},
		{"\u200d", of(0, two(0, 0)), []string{"e"}, "e\u200d", changeOf(3, api.Edit{Text: "e"}), of(0, two(0, 0))}, // behind its text is within a letter
		{"a\xac", of(0, two(0, 1)), []string{"\xe2\x82"}, "\u20ac", changeOf(2, api.Edit{From: 0, To: 1, Text: "\xe2\x82"}), of(0, two(0, 0))},
		{"e\u0301x", of(0, two(1, 3)), []string{"a"}, "ax", changeOf(4, api.Edit{From: 0, To: 3, Text: "a"}), of(0, two(1, 1))},
	} {
		made, c, got := pick.Type(x.s, x.p, x.texts)
		if same(t, got, x.want, "Type", x.s, x.p, x.texts); made != x.made || !alike(c, x.c) {
			t.Errorf("Type(%q, %v, %q): %q, %v", x.s, x.p, x.texts, made, c)
		}
	}
	r := rand.New(rand.NewSource(248))
	for range 30000 {
		s := someText(r, 12)
		p := somePicks(r, s)
		var texts []string
		for range r.Intn(4) {
			texts = append(texts, someText(r, 2))
		}
		made, c, got := pick.Type(s, p, texts)
		want, d, q := plainType(s, p, texts)
		if same(t, got, q, "Type", s, p, texts); made != want || !alike(c, d) {
			t.Fatalf("Type(%q, %v, %q): %q, %v; want %q, %v", s, p, texts, made, c, want, d)
		}
		if there, e := edit.Apply(s, c); there != made || e != api.OK {
			t.Fatalf("Type(%q, %v, %q): %q; its change makes %q, %d", s, p, texts, made, there, e)
		}
	}
}

func TestP24_9(t *testing.T) {
	back := api.Motion{Kind: api.ToLetter, N: -1}
	for _, x := range []struct {
		s    string
		p    api.Picks
		m    api.Motion
		made string
		want api.Picks
	}{
		{"ab cd", of(0, two(5, 5), two(0, 1)), api.Motion{Kind: api.ToWord, N: -1}, "b ", of(1, two(0, 0), two(2, 2))},
		{"abcd", of(0, two(2, 2)), back, "acd", of(0, two(1, 1))},
		{"abcd", of(0, two(2, 2)), api.Motion{Kind: api.ToLetter, N: 1}, "abd", of(0, two(2, 2))},
		{"abcd", of(0, two(2, 3)), back, "abd", of(0, two(2, 2))}, // one that is not empty goes, and no more
		{"abcd", of(0, two(0, 0)), back, "abcd", of(0, two(0, 0))},
		{"abcd", of(1, two(1, 1), two(2, 2)), back, "cd", of(0, two(0, 0))},
		{"abcd", of(1, two(1, 1), two(4, 4)), back, "bc", of(1, two(0, 0), two(2, 2))},
		{"abcd", of(1, two(1, 1), two(3, 3)), api.Motion{Kind: api.ToBegin}, "d", of(0, two(0, 0))}, // what is gone over twice
		{"abcd", of(1, two(0, 2), two(3, 3)), api.Motion{Kind: api.ToLetter, N: -2}, "d", of(0, two(0, 0))},
		{"abcd", of(0, two(2, 2)), api.Motion{Kind: 99, N: 1}, "abcd", of(0, two(2, 2))},
		{"abcd", of(0, two(1, 3), two(4, 4)), api.Motion{Kind: -1, N: 1}, "ad", of(0, two(1, 1), two(2, 2))},
		{"abcd", of(9), back, "abcd", of(0)},
		{"", of(9, two(5, -5)), back, "", of(0, two(0, 0))},
		{"ae\u0301x", of(0, two(3, 3)), back, "e\u0301x", of(0, two(0, 0))},
		{"ab\u0301x", of(0, two(4, 4)), back, "ax", of(0, two(1, 1))},
		{"a\u200d\r\u200d", of(0, two(5, 5)), back, "a\u200d\u200d", of(0, two(0, 0))},                                                // where it stood is within a letter now
		{"abc\nd\nefg", of(0, api.Pick{Anchor: 5, Head: 5, Goal: 2}), api.Motion{Kind: api.ToRow, N: 1}, "abc\ndg", of(0, two(5, 5))}, // by its column
	} {
		made, got := pick.Erase(x.s, x.p, x.m, o8)
		if same(t, got, x.want, "Erase", x.s, x.p, x.m); made != x.made {
			t.Errorf("Erase(%q, %v, %v): %q", x.s, x.p, x.m, made)
		}
	}
	r := rand.New(rand.NewSource(249))
	for range 30000 {
		s := someText(r, 12)
		p, m, o := somePicks(r, s), someMotion(r), someCells(r)
		made, got := pick.Erase(s, p, m, o)
		want, q := plainErase(s, p, m, o)
		if same(t, got, q, "Erase", s, p, m, o); made != want {
			t.Fatalf("Erase(%q, %v, %v, %v): %q; want %q", s, p, m, o, made, want)
		}
	}
}

// spare is picks whose list has room behind them, with something in it.
func spare(p api.Picks) (api.Picks, []api.Pick) {
	l := append(slices.Clone(p.L), two(7, 7), two(9, 9))
	return api.Picks{L: l[:len(p.L)], Main: p.Main}, l
}

// written writes over picks, and over their list's spare room.
func written(p api.Picks) {
	l := p.L[:cap(p.L)]
	for i := range l {
		l[i] = two(-5, 99)
	}
}

// TestShare is that what is handed in stays as it is, its spare room too, and that answers share nothing with it, or with one another.
func TestShare(t *testing.T) {
	r := rand.New(rand.NewSource(240))
	for range 3000 {
		s := someText(r, 10)
		p, all := spare(somePicks(r, s))
		c, m, o := someChange(r, len(s)), someMotion(r), someCells(r)
		texts := []string{"x", "yz", "spare"}
		was, edits := slices.Clone(all), slices.Clone(c.Edits)
		calls := []func() api.Picks{
			func() api.Picks { return pick.Norm(s, p) },
			func() api.Picks { return pick.Move(s, p, m, true, o) },
			func() api.Picks { return pick.Grow(s, p, m.Kind) },
			func() api.Picks { return pick.Lines(s, p) },
			func() api.Picks { return pick.Rest(s, p) },
			func() api.Picks { return pick.Found(s, "a", api.Find{}) },
			func() api.Picks { return pick.Block(s, api.Spot{}, api.Spot{Row: 9, Col: 3}, o) },
			func() api.Picks { q, _ := pick.Through(s, c, p); return q },
			func() api.Picks { _, _, q := pick.Type(s, p, texts[:2]); return q },
			func() api.Picks { _, q := pick.Erase(s, p, m, o); return q },
		}
		for i, call := range calls {
			want := call()
			keep := api.Picks{L: slices.Clone(want.L), Main: want.Main}
			written(want)
			same(t, call(), keep, "call", i, s, p, c, m, o)
		}
		l := pick.Texts(s, p)
		for i := range l[:cap(l)] {
			l[:cap(l)][i] = "written"
		}
		_, d, _ := pick.Type(s, p, texts[:2])
		for i := range d.Edits[:cap(d.Edits)] {
			d.Edits[:cap(d.Edits)][i].Text = "written"
		}
		if !slices.Equal(all, was) || !slices.Equal(c.Edits, edits) || !slices.Equal(texts, []string{"x", "yz", "spare"}) {
			t.Fatalf("%q, %v, %v, %v", s, all, c, texts)
		}
	}
}
