package grapheme_test

import (
	"math/rand"
	"slices"
	"strings"
	"testing"

	"kerf/grapheme"
	"kerf/utf"
)

// TestP11_1Examples are those of the chapter, and of the document.
func TestP11_1Examples(t *testing.T) {
	for _, x := range []struct {
		s    string
		want []int
	}{
		{"e\u0301x\r\n", []int{0, 3, 4, 6}},
		{"a\x80\u0301", []int{0, 1, 4}},
		{"", nil},
		{"\U0001f468\u200d\U0001f469", []int{0, 11}},
		{"\U0001f1e6\U0001f1e7\U0001f1e8", []int{0, 8, 12}},
		{"\U0001f1e6\U0001f1e7\U0001f1e8\U0001f1e9", []int{0, 8, 16}},
		{"\u1100\u1161\u11a8", []int{0, 9}},
		{"a\xe2\x82\n", []int{0, 1, 2, 3, 4}},
		{"\xff", []int{0, 1}},
		{"\u0301", []int{0, 2}},
		{"\n\r", []int{0, 1, 2}},
		{"\r\r\n\n", []int{0, 1, 3, 4}},
	} {
		if got := grapheme.Bounds(x.s); !slices.Equal(got, x.want) {
			t.Errorf("%q: %v; want %v", x.s, got, x.want)
		}
		if got := grapheme.Count(x.s); got != max(len(x.want)-1, 0) {
			t.Errorf("%q: Count %d", x.s, got)
		}
	}
}

// TestP11_1Rows has every row of up to three classes.
func TestP11_1Rows(t *testing.T) {
	b := plain(t)
	for long := range 4 {
		for s := range rows(long, all()...) {
			held(t, b, s)
		}
	}
}

// TestP11_1Further has longer rows of the classes that look further back, and those that stand between them.
func TestP11_1Further(t *testing.T) {
	b := plain(t)
	for _, x := range []struct {
		long    int
		classes []int
	}{
		{7, []int{flag, extend, other}}, {7, []int{flag, prepend}}, {6, []int{flag, zwj, pict}}, {9, []int{flag, lf}},
		{6, []int{pict, extend, zwj}}, {6, []int{pict, mark, zwj}}, {5, []int{pict, extend, zwj, other}}, {5, []int{pict, prepend, zwj, extend}},
		{5, []int{lead, vowel, tail, syllable}}, {5, []int{lead, syllable, tail, extend}}, {7, []int{cr, lf}}, {5, []int{cr, lf, control, extend}},
	} {
		for long := 4; long <= x.long; long++ {
			for s := range rows(long, x.classes...) {
				held(t, b, s)
			}
		}
	}
}

// TestP11_1Any has texts of any runes and bytes.
func TestP11_1Any(t *testing.T) {
	b := plain(t)
	r := rand.New(rand.NewSource(111))
	for range 4000 {
		held(t, b, someText(r, 14))
	}
	for range 4000 {
		bytes := make([]byte, r.Intn(12))
		for i := range bytes {
			bytes[i] = "a\r\n\x80\xcc\x81\xe2\x80\x8d\xf0\x9f\x87\xa6\xa7\xff\xd8\xbf"[r.Intn(17)]
		}
		held(t, b, string(bytes))
	}
}

// TestP11_1Faults has bytes that belong to no rune at both ends, between, and ahead of marks: each counts as a letter.
func TestP11_1Faults(t *testing.T) {
	b := plain(t)
	for _, fault := range []string{"\x80", "\xff", "\xc3", "\xe2\x82", "\xf0\x9f\x87", "\xed\xa0\x80"} {
		for class, s := range byClass {
			for _, text := range []string{fault, fault + s, s + fault, s + fault + s, fault + s + fault, fault + fault, fault + s + byClass[extend], byClass[prepend] + fault} {
				held(t, b, text)
			}
			wants := class == extend || class == zwj || class == mark
			if got := grapheme.Is(fault+s, len(fault)); got == wants {
				t.Errorf("%q: a bound at %d: %v", fault+s, len(fault), got)
			}
		}
	}
}

// TestP11_1Places has every place of a text, by hand.
func TestP11_1Places(t *testing.T) {
	const s = "\xffe\u0301\r\n\U0001f1e6\U0001f1e7\u0301\U0001f1e8\xe2" // 0, 1-3, 4-5, 6-15, 16-19, 20
	for _, x := range []struct {
		at, next, prev, from, to int
		is                       bool
	}{
		{-3, 0, 0, 0, 0, false},
		{-1, 0, 0, 0, 0, false},
		{0, 1, 0, 0, 1, true},
		{1, 4, 0, 1, 4, true},
		{2, 4, 1, 1, 4, false},
		{3, 4, 1, 1, 4, false}, // within a rune
		{4, 6, 1, 4, 6, true},
		{5, 6, 4, 4, 6, false},
		{6, 16, 4, 6, 16, true},
		{7, 16, 6, 6, 16, false},
		{10, 16, 6, 6, 16, false},
		{14, 16, 6, 6, 16, false},
		{15, 16, 6, 6, 16, false},
		{16, 20, 6, 16, 20, true},
		{19, 20, 16, 16, 20, false},
		{20, 21, 16, 20, 21, true},
		{21, 21, 20, 0, 0, true},
		{22, 21, 21, 0, 0, false},
		{99, 21, 21, 0, 0, false},
	} {
		from, to := grapheme.Around(s, x.at)
		if grapheme.Is(s, x.at) != x.is || grapheme.Next(s, x.at) != x.next || grapheme.Prev(s, x.at) != x.prev || from != x.from || to != x.to {
			t.Errorf("%v: %v, %d, %d, %d, %d", x, grapheme.Is(s, x.at), grapheme.Next(s, x.at), grapheme.Prev(s, x.at), from, to)
		}
	}
	for _, at := range around("") {
		from, to := grapheme.Around("", at)
		if grapheme.Is("", at) || grapheme.Next("", at) != 0 || grapheme.Prev("", at) != 0 || from != 0 || to != 0 {
			t.Errorf("of nothing, at %d", at)
		}
	}
}

// TestP11_1Left has Each and Back left at every piece, gone over again, and nested.
func TestP11_1Left(t *testing.T) {
	const s = "\xffe\u0301\r\n\U0001f1e6\U0001f1e7\U0001f1e8x"
	forward := []pair{{0, 1}, {1, 4}, {4, 6}, {6, 14}, {14, 18}, {18, 19}}
	backward := slices.Clone(forward)
	slices.Reverse(backward)
	each, back := grapheme.Each(s), grapheme.Back(s)
	for _, x := range []struct {
		seq  func(func(int, int) bool)
		want []pair
	}{{each, forward}, {back, backward}} {
		for stop := range x.want {
			var got []pair
			for from, to := range x.seq {
				if got = append(got, pair{from, to}); len(got) == stop+1 {
					break
				}
			}
			if !slices.Equal(got, x.want[:stop+1]) {
				t.Errorf("left at %d: %v", stop, got)
			}
			told := 0
			x.seq(func(int, int) bool { told++; return told <= stop })
			if told != stop+1 {
				t.Errorf("left at %d: %d told", stop, told)
			}
			if got := pairs(x.seq); !slices.Equal(got, x.want) {
				t.Errorf("gone over again: %v", got)
			}
		}
	}
	i := 0
	for from, to := range each {
		if forward[i] != (pair{from, to}) {
			t.Errorf("Each at %d: %d, %d", i, from, to)
		}
		i++
		j := 0
		for from, to := range back {
			if backward[j] != (pair{from, to}) {
				t.Errorf("Back in Each at %d: %d, %d", j, from, to)
			}
			if got := pairs(back); !slices.Equal(got, backward) {
				t.Errorf("Back in itself: %v", got)
			}
			if j++; j == i {
				break
			}
		}
		if got := pairs(each); !slices.Equal(got, forward) {
			t.Errorf("Each in itself: %v", got)
		}
	}
	if i != len(forward) {
		t.Errorf("%d pieces", i)
	}
	if grapheme.Each("") == nil || grapheme.Back("") == nil || len(pairs(grapheme.Each(""))) != 0 || len(pairs(grapheme.Back(""))) != 0 {
		t.Errorf("pieces of nothing")
	}
}

// TestP11_1New is whether lists that are answered share nothing.
func TestP11_1New(t *testing.T) {
	x, y := grapheme.Bounds("abc"), grapheme.Bounds("abc")
	clear(x[:cap(x)])
	if want := []int{0, 1, 2, 3}; !slices.Equal(y, want) || !slices.Equal(grapheme.Bounds("abc"), want) {
		t.Errorf("%v, %v", y, grapheme.Bounds("abc"))
	}
}

// TestP11_1Long has texts that no one would wait for, if what stands ahead were looked through at each piece, or the whole at each place.
func TestP11_1Long(t *testing.T) {
	const n = 300001
	flags := strings.Repeat(byClass[flag], n)
	if got := grapheme.Count(flags); got != n/2+1 {
		t.Errorf("flags: %d", got)
	}
	turned := grapheme.Turn(flags + "x")
	if len(turned) != len(flags)+1 || turned[0] != 'x' {
		t.Errorf("flags turned: %d bytes", len(turned))
	}
	backward := 0
	for from, to := range grapheme.Back(flags) {
		if want := min(4*n, 8*(n/2+1-backward)); to != want || from != 8*(n/2-backward) {
			t.Fatalf("Back at %d: %d, %d", backward, from, to)
		}
		backward++
	}
	family := strings.Repeat(of(pict, extend, zwj), n) + byClass[pict]
	if got := grapheme.Bounds("a" + family + "b"); !slices.Equal(got, []int{0, 1, 1 + len(family), 2 + len(family)}) {
		t.Errorf("pictures: %d bounds", len(got))
	}
	text := strings.Repeat("e\u0301x\r\n", n)
	at := 0
	for range 2 * n {
		at = grapheme.Next(text, at)
		if !grapheme.Is(text, at) || !grapheme.Safe(text[:len(text)-1], at) {
			t.Fatalf("no bound at %d", at)
		}
	}
	for range 2 * n {
		at = grapheme.Prev(text, at)
	}
	if at != 0 {
		t.Errorf("back at %d", at)
	}
}

// TestP11_2Place has Place, Cut and Turn of every row of up to three classes, and of texts of any runes and bytes.
func TestP11_2Place(t *testing.T) {
	b := plain(t)
	r := rand.New(rand.NewSource(112))
	var texts []string
	for long := range 4 {
		texts = slices.AppendSeq(texts, rows(long, all()...))
	}
	for range 2000 {
		texts = append(texts, someText(r, 12))
	}
	for _, s := range texts {
		count := b.Count(s)
		for _, n := range append(around(""), rising(count+3)...) {
			want := plainPlace(b, s, n)
			if got := grapheme.Place(s, n); got != want {
				t.Fatalf("%q: Place %d: %d; want %d", s, n, got, want)
			}
			if x, y := grapheme.Cut(s, n); x != s[:want] || y != s[want:] {
				t.Fatalf("%q: Cut %d: %q, %q", s, n, x, y)
			}
		}
		if got, want := grapheme.Turn(s), plainTurn(b, s); got != want {
			t.Fatalf("%q: Turn %q; want %q", s, got, want)
		}
	}
}

// rising is the numbers from 0 to below n.
func rising(n int) []int {
	var l []int
	for i := range n {
		l = append(l, i)
	}
	return l
}

// TestP11_2Examples are those of the chapter.
func TestP11_2Examples(t *testing.T) {
	if got := grapheme.Turn("e\u0301x"); got != "xe\u0301" {
		t.Errorf("Turn: %q", got)
	}
	if got := grapheme.Turn("a\r\n\U0001f1e6\U0001f1e7\U0001f1e8\xe2"); got != "\xe2\U0001f1e8\U0001f1e6\U0001f1e7\r\na" {
		t.Errorf("Turn: %q", got)
	}
	// Bytes that were faults make a rune with what then stands beside them.
	if got := grapheme.Turn("\x81\xcc"); got != "\u0301" {
		t.Errorf("Turn of faults: %q", got)
	}
	for _, x := range []struct {
		s       string
		n, want int
	}{
		{"e\u0301x", 1, 3}, {"e\u0301x", 0, 0}, {"e\u0301x", 2, 4}, {"e\u0301x", 3, 4}, {"e\u0301x", -1, 0}, {"", 0, 0}, {"", 1, 0}, {"", -1, 0}, {"ab", 9, 2},
	} {
		if got := grapheme.Place(x.s, x.n); got != x.want {
			t.Errorf("Place(%q, %d): %d; want %d", x.s, x.n, got, x.want)
		}
	}
	for _, x := range []struct {
		s          string
		n          int
		left, rest string
	}{
		{"ab", -1, "", "ab"}, {"ab", 0, "", "ab"}, {"ab", 1, "a", "b"}, {"ab", 2, "ab", ""}, {"ab", 3, "ab", ""}, {"", 0, "", ""}, {"", 5, "", ""}, {"e\u0301\r\nx", 2, "e\u0301\r\n", "x"},
	} {
		if left, rest := grapheme.Cut(x.s, x.n); left != x.left || rest != x.rest {
			t.Errorf("Cut(%q, %d): %q, %q", x.s, x.n, left, rest)
		}
	}
}

// TestP11_3 is that a letter stays together, at every rune of texts of any runes and bytes.
func TestP11_3(t *testing.T) {
	d := plain(t).Db()
	r := rand.New(rand.NewSource(113))
	for range 6000 {
		s := someText(r, 12)
		places, c := edges(s), d.Of(s)
		ends := func(k int) bool { return c[k] == cr || c[k] == lf || c[k] == control }
		for k := 1; k < len(c); k++ {
			is := grapheme.Is(s, places[k])
			marks := c[k] == extend || c[k] == zwj || c[k] == mark
			switch {
			case c[k-1] == cr && c[k] == lf, marks && !ends(k-1):
				if is {
					t.Fatalf("%q: a bound at %d", s, places[k])
				}
			case ends(k-1) || ends(k):
				if !is {
					t.Fatalf("%q: no bound at %d", s, places[k])
				}
			}
		}
	}
}

// TestP11_4 has flag letters in odd and even numbers, with what extends them, and behind other letters.
func TestP11_4(t *testing.T) {
	for _, ahead := range []string{"", "a", "\xff", "\n", "\r", "a\u0301", "\u200d", byClass[mark], byClass[syllable], byClass[pict] + "\u200d", "\U0001f1e6\u0301"} {
		for _, behind := range []string{"", "\u0301", "\u200d", byClass[mark], "\u0301\u0301\ufe0f"} {
			for n := 1; n <= 9; n++ {
				s := ahead + strings.Repeat("\U0001f1e9\U0001f1ea", 5)[:4*n] + behind
				want := grapheme.Bounds(ahead)
				if len(want) == 0 {
					want = []int{0}
				}
				for k := 2; k < n; k += 2 {
					want = append(want, len(ahead)+4*k)
				}
				want = append(want, len(s))
				if got := grapheme.Bounds(s); !slices.Equal(got, want) {
					t.Errorf("%q: %v; want %v", s, got, want)
				}
			}
		}
	}
	// A Prepend holds on to the first one, and has no part in their number.
	if got := grapheme.Bounds("\u0600\U0001f1e6\U0001f1e7\U0001f1e8"); !slices.Equal(got, []int{0, 10, 14}) {
		t.Errorf("behind a Prepend: %v", got)
	}
	// What extends a flag letter ends the row.
	if got := grapheme.Bounds("\U0001f1e6\u0301\U0001f1e7\U0001f1e8"); !slices.Equal(got, []int{0, 6, 14}) {
		t.Errorf("extended: %v", got)
	}
}

// TestP11_5 turns texts round: of all classes, and of those alone whose runes are letters by themselves.
func TestP11_5(t *testing.T) {
	r := rand.New(rand.NewSource(115))
	single := []string{"a", "b", "\u00e9", "\u4e00", "\n", "\x00", "\u00ad", "\u2028", "\U0010ffff", "\ufffd"}
	for range 3000 {
		s := someText(r, 12)
		if got := grapheme.Turn(s); len(got) != len(s) {
			t.Fatalf("%q: %q", s, got)
		}
		s, want := "", ""
		for range r.Intn(9) {
			x := single[r.Intn(len(single))]
			s, want = s+x, x+want
		}
		if got := grapheme.Turn(s); got != want {
			t.Fatalf("%q: %q; want %q", s, got, want)
		}
		if got := grapheme.Turn(want); got != s {
			t.Fatalf("%q turned twice: %q", s, got)
		}
	}
	if got := grapheme.Turn(""); got != "" {
		t.Errorf("of nothing: %q", got)
	}
}

// TestP11_6 cuts texts: what stands ahead has as many letters as were asked for, and both have those of the whole.
func TestP11_6(t *testing.T) {
	r := rand.New(rand.NewSource(116))
	for range 3000 {
		s := someText(r, 12)
		count := grapheme.Count(s)
		for n := -2; n <= count+2; n++ {
			x, y := grapheme.Cut(s, n)
			if want := min(max(n, 0), count); x+y != s || grapheme.Count(x) != want || grapheme.Count(y) != count-want {
				t.Fatalf("%q, %d: %q, %q", s, n, x, y)
			}
		}
		for from, to := range grapheme.Each(s) {
			if grapheme.Count(s[from:to]) != 1 || !utf.Is(s, from) {
				t.Fatalf("%q: from %d to %d", s, from, to)
			}
		}
	}
}
