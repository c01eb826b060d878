package fold_test

import (
	"math/rand"
	"slices"
	"testing"

	"kerf/fold"
	"kerf/utf"
)

// TestP19_4Places has places by hand: of runes that become several, and of those that have more bytes or fewer then.
func TestP19_4Places(t *testing.T) {
	for _, c := range []struct {
		s, folded string
		at        []int
	}{
		{"", "", nil},
		{"aB", "ab", []int{0, 1}},
		{"\ufb01", "fi", []int{0, 0}},
		{"x\ufb01", "xfi", []int{0, 1, 1}},
		{"\ufb03x", "ffix", []int{0, 0, 0, 3}},
		{"\u1e9e\u00df!", "ssss!", []int{0, 0, 3, 3, 5}},
		{"\u017fS", "ss", []int{0, 2}},
		{"a\u0130b", "ai\u0307b", []int{0, 1, 1, 1, 3}},
		{"\u0390A", "\u03b9\u0308\u0301a", []int{0, 0, 0, 0, 0, 0, 2}},
		{"\u0149\u01f0", "\u02bcnj\u030c", []int{0, 0, 0, 2, 2, 2}},
		{"\u0391\u03a3", "\u03b1\u03c3", []int{0, 0, 2, 2}},
		{"\u4e00\U00010400a", "\u4e00\U00010428a", []int{0, 0, 0, 3, 3, 3, 3, 7}},
		{"\xff\xfeA\xe2\x82", "\xff\xfea\xe2\x82", []int{0, 1, 2, 3, 4}},
		{"\xc3\u00df\xc3", "\xc3ss\xc3", []int{0, 1, 1, 3}},
		{"\ufffd\xef\xbf", "\ufffd\xef\xbf", []int{0, 0, 0, 3, 4}},
	} {
		if got, at := fold.Folded(c.s); got != c.folded || !slices.Equal(at, c.at) {
			t.Errorf("%+q: %+q %v; want %+q %v", c.s, got, at, c.folded, c.at)
		}
		if got := fold.Fold(c.s); got != c.folded {
			t.Errorf("%+q: %+q; want %+q", c.s, got, c.folded)
		}
	}
}

// TestP19_4Bytes holds the places against the text byte by byte: what stands between two edges of it, folded by itself, is what came of it.
func TestP19_4Bytes(t *testing.T) {
	r := rand.New(rand.NewSource(194))
	for range 3000 {
		s := someText(r, 10)
		got, at := fold.Folded(s)
		if got != fold.Fold(s) || len(at) != len(got) || !slices.IsSorted(at) {
			t.Fatalf("%+q: %+q %v", s, got, at)
		}
		for i, place := range at {
			first, found := slices.BinarySearch(at, place)
			piece := fold.Fold(s[place:utf.On(s, place)])
			if !found || !utf.Is(s, place) || place == len(s) || i-first >= len(piece) || got[i] != piece[i-first] {
				t.Fatalf("%+q: byte %d of %+q is not of %d", s, i, got, place)
			}
		}
		for place := range utf.Each(s) {
			if !slices.Contains(at, place) {
				t.Fatalf("%+q: nothing came of %d", s, place)
			}
		}
	}
}

// TestP19_4New has a list of places changed: the next one is as it was.
func TestP19_4New(t *testing.T) {
	_, one := fold.Folded("a\ufb01")
	one[0], one[2] = 7, 9
	_ = append(one[:1], 5, 5, 5)
	if _, two := fold.Folded("a\ufb01"); !slices.Equal(two, []int{0, 1, 1}) {
		t.Error(two)
	}
}

// TestP19_5Equal has texts whose folded forms are spelled by unlike runes, and texts that are not the same.
func TestP19_5Equal(t *testing.T) {
	same := [][]string{
		{""},
		{"ab", "AB", "aB", "Ab"},
		{"ss", "SS", "sS", "\u00df", "\u1e9e", "\u017f\u017f", "\u017fS", "s\u017f"},
		{"stra\u00dfe", "STRASSE", "Stra\u1e9eE", "\u017ftra\u017fSe"},
		{"ffi", "FFI", "\ufb03", "\ufb00i", "f\ufb01", "F\ufb01", "\ufb00I"},
		{"fl", "\ufb02", "FL"},
		{"\u03c3", "\u03a3", "\u03c2"},
		{"\u01c4", "\u01c5", "\u01c6"},
		{"\u0130", "i\u0307", "I\u0307"},
		{"\u0131"},
		{"i", "I"},
		{"\u0149", "\u02bcn", "\u02bcN"},
		{"\u01f0", "j\u030c", "J\u030c"},
		{"\u0390", "\u03b9\u0308\u0301", "\u0399\u0308\u0301"},
		{"\u0587", "\u0565\u0582", "\u0535\u0552", "\u0535\u0582"},
		{"\u00e9", "\u00c9"},
		{"e\u0301", "E\u0301"}, // not the one above: it is spelt otherwise, and normal forms have no part
		{"\xff"}, {"\xfe"}, {"\ufffd"}, {"\xef\xbf"},
		{"a\xff", "A\xff"}, {"a", "A"}, {"\xffa", "\xffA"},
		{"\xe2\x82"}, {"\u20ac"},
	}
	for i, one := range same {
		for j, two := range same {
			for _, a := range one {
				for _, b := range two {
					if got := fold.Equal(a, b); got != (i == j) {
						t.Errorf("%+q and %+q: %v", a, b, got)
					}
				}
			}
		}
	}
}

// TestP19_5Begins has beginnings by hand.
func TestP19_5Begins(t *testing.T) {
	const none = -1
	for _, c := range []struct {
		s, t string
		want int
	}{
		{"STRASSEx", "stra\u00dfe", 7},
		{"stra\u00dfex", "STRASSE", 7},
		{"\u00df", "s", none},
		{"\u00df", "ss", 2}, {"\u00dfx", "SS", 2}, {"ssx", "\u00df", 2}, {"sSs", "\u1e9e", 2}, {"\u1e9es", "\u00df", 3}, {"\u017f\u017fx", "\u00df", 4},
		{"", "", 0}, {"abc", "", 0}, {"\xff", "", 0}, {"", "a", none}, {"", "\xff", none},
		{"AB", "ab", 2}, {"ab", "abc", none}, {"ab", "b", none}, {"abab", "AB", 2}, {"ba", "ab", none}, {"aab", "ab", none},
		{"\u4e00\U00010400x", "\u4e00\U00010428", 7},
		// t ends within what one rune becomes, or begins with more
		{"a\u00df", "as", none}, {"a\u00df", "ass", 3}, {"\ufb03x", "f", none}, {"\ufb03x", "ff", none}, {"\ufb03x", "ffi", 3}, {"\ufb03x", "ffix", 4},
		{"ffix", "\ufb03", 3}, {"\ufb00i", "\ufb03", 4}, {"f\ufb01", "\ufb03", 4}, {"\ufb00x", "\ufb03", none}, {"f", "\ufb03", none}, {"ff", "\ufb03", none}, {"\ufb03", "\ufb00", none}, {"\ufb03", "\ufb00i", 3},
		{"\u0130x", "i", none}, {"\u0130x", "i\u0307", 2}, {"i\u0307x", "\u0130", 3}, {"\u0149", "\u02bc", none}, {"\u0390a", "\u03b9\u0308", none}, {"\u0390a", "\u0399\u0308\u0301", 2},
		{"\u03a3\u03c2x", "\u03c3\u03c3", 4}, {"e\u0301", "e", 1}, {"\u00e9", "e", none},
		// faults: as they are, at edges alone
		{"\xffa", "\xff", 1}, {"\xfe", "\xff", none}, {"a\xe2\x82", "A\xe2", 2}, {"a\xe2\x82", "A\xe2\x82", 3}, {"\u20ac", "\xe2", none}, {"\u20ac", "\xe2\x82", none}, {"\xe2\x82", "\u20ac", none},
		{"\ufffd", "\xff", none}, {"\xff", "\ufffd", none}, {"\xef\xbf", "\xef", 1}, {"\ufffd", "\xef", none}, {"\xff\u00df\xff", "\xffss", 3}, {"\u00df\xff", "s\xff", none}, {"\u00df\x80", "ss\x80", 3},
	} {
		n, ok := fold.Begins(c.s, c.t)
		if ok != (c.want != none) || n != max(c.want, 0) {
			t.Errorf("%+q, %+q: %d %v; want %d", c.s, c.t, n, ok, c.want)
		}
	}
}

// TestP19_5Some holds Equal and Begins against the plain reading, of texts of few parts, so that they are often the same.
func TestP19_5Some(t *testing.T) {
	x := bookOf(t)
	few := []string{"s", "S", "\u00df", "\u1e9e", "\u017f", "\xc3"}
	var all []string
	for long := range 4 {
		for s := range rows(long, few...) {
			all = append(all, s)
		}
	}
	equal, begins := 0, 0
	r := rand.New(rand.NewSource(195))
	for range 6000 {
		a, b := all[r.Intn(len(all))], all[r.Intn(len(all))]
		if r.Intn(4) == 0 {
			a, b = someText(r, 6), someText(r, 3)
		}
		got := fold.Equal(a, b)
		if got != (x.text(a, folded) == x.text(b, folded)) {
			t.Fatalf("%+q and %+q: %v", a, b, got)
		}
		n, ok := fold.Begins(a, b)
		if m, is := x.begins(a, b); n != m || ok != is {
			t.Fatalf("%+q, %+q: %d %v; want %d %v", a, b, n, ok, m, is)
		}
		if got {
			equal++
		}
		if ok {
			begins++
		}
	}
	if equal < 100 || begins <= equal {
		t.Errorf("%d are equal, %d begin", equal, begins)
	}
}

// TestP19_5Own has a text begin with each of its own beginnings, in any form of them.
func TestP19_5Own(t *testing.T) {
	r := rand.New(rand.NewSource(1955))
	for range 800 {
		s := someText(r, 8)
		for n := range len(s) + 1 {
			if !utf.Is(s, n) {
				continue
			}
			for _, b := range []string{s[:n], fold.Fold(s[:n])} {
				if m, ok := fold.Begins(s, b); m != n || !ok {
					t.Fatalf("%+q, %+q: %d %v; want %d", s, b, m, ok, n)
				}
			}
		}
	}
}
