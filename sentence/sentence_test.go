package sentence_test

import (
	"math/rand"
	"slices"
	"strings"
	"testing"

	"kerf/sentence"
	"kerf/stream"
	"kerf/utf"
)

// TestP13_1Examples are those of the chapter, and of the rules one by one.
func TestP13_1Examples(t *testing.T) {
	for _, x := range []struct {
		s    string
		want []string
	}{
		{"A b. C d.", []string{"A b. ", "C d."}},
		{"A b. c d.", []string{"A b. c d."}},
		{"A 3.5 x", []string{"A 3.5 x"}},
		{"A.B c", []string{"A.B c"}},
		{"A b.\" C", []string{"A b.\" ", "C"}},
		{"A! b", []string{"A! ", "b"}},
		{"a. (b)", []string{"a. (b)"}},
		{"a. 1 B", []string{"a. ", "1 B"}},
		{"", nil},
		{"a", []string{"a"}},
		{"A b. c", []string{"A b. c"}},
		{"A b. C", []string{"A b. ", "C"}},
		{"a\r\nb\rc\nd\u2028e\u0085", []string{"a\r\n", "b\r", "c\n", "d\u2028", "e\u0085"}},
		{"\n\u0301a", []string{"\n", "\u0301a"}},
		{"a.\u0301 B", []string{"a.\u0301 ", "B"}},
		{"a\u0301.\u0301B", []string{"a\u0301.\u0301B"}},
		{"1.B", []string{"1.", "B"}},
		{"\u05d0.B", []string{"\u05d0.", "B"}},
		{"a?B", []string{"a?", "B"}},
		{"a..B", []string{"a..", "B"}},
		{"a.)B", []string{"a.)", "B"}},
		{"a.\u0301\u03015", []string{"a.\u0301\u03015"}},
		{"a.)5", []string{"a.)", "5"}},
		{"a. 5", []string{"a. ", "5"}},
		{"a?5", []string{"a?", "5"}},
		{"a. 5 b", []string{"a. 5 b"}},
		{"a? 5 b", []string{"a? ", "5 b"}},
		{"A.) (+5, \u0301b", []string{"A.) (+5, \u0301b"}},
		{"A. +\u05d0b", []string{"A. ", "+\u05d0b"}},
		{"A. +\nb", []string{"A. ", "+\n", "b"}},
		{"A. +.b", []string{"A. ", "+.b"}},
		{"A. +!b", []string{"A. ", "+!", "b"}},
		{"A.) , B", []string{"A.) , B"}},
		{"A?) - B", []string{"A?) - B"}},
		{"A?!. . ? B", []string{"A?!. . ? ", "B"}},
		{"A.)) )B", []string{"A.)) ", ")B"}},
		{"A? \n\nB", []string{"A? \n", "\n", "B"}},
		{"A.\r\nb", []string{"A.\r\n", "b"}},
		{"He said: \u201cGo!\u201d (3.5 m.) Then he went.", []string{"He said: \u201cGo!\u201d ", "(3.5 m.) ", "Then he went."}},
		{"\u662f\u3002\u4e0d\uff1f", []string{"\u662f\u3002", "\u4e0d\uff1f"}},
		{"a. \xffb", []string{"a. \xffb"}},
		{"a. \xffB", []string{"a. ", "\xffB"}},
	} {
		if got := sentences(x.s); !slices.Equal(got, x.want) {
			t.Errorf("%q: %q; want %q", x.s, got, x.want)
		}
		var want []int
		if x.s != "" {
			want = []int{0}
		}
		for at, i := 0, 0; i < len(x.want); i++ {
			at += len(x.want[i])
			want = append(want, at)
		}
		if got := sentence.Bounds(x.s); !slices.Equal(got, want) {
			t.Errorf("%q: %v; want %v", x.s, got, want)
		}
		if got := sentence.Count(x.s); got != len(x.want) {
			t.Errorf("%q: %d; want %d", x.s, got, len(x.want))
		}
	}
}

// TestP13_1Rows has every row of up to three classes, by all calls of the breaker.
func TestP13_1Rows(t *testing.T) {
	b := plain(t)
	for long := range 4 {
		for s := range rows(long, all()...) {
			held(t, b, s)
		}
	}
}

// TestP13_1Further has longer rows of the classes that look further ahead or back, and those that stand among them.
func TestP13_1Further(t *testing.T) {
	b := plain(t)
	for _, x := range []struct {
		long    int
		classes []int
	}{
		{4, []int{other, lf, sp, lower, upper, letter, digit, stop, term, closing, on, extend}},
		{6, []int{stop, closing, sp, extend, lower}}, {6, []int{stop, closing, sp, upper}}, {6, []int{term, closing, sp, extend, lower}},
		{6, []int{upper, lower, stop, extend}}, {6, []int{stop, extend, digit, lower}}, {5, []int{stop, term, on, sp, closing, letter}},
		{5, []int{stop, cr, lf, sep, extend, lower}}, {5, []int{stop, sp, cr, lf, closing}}, {6, []int{stop, other, lower, upper}}, {5, []int{stop, sp, digit, on, other, lower}},
	} {
		for long := 4; long <= x.long; long++ {
			for s := range rows(long, x.classes...) {
				heldByBounds(t, b, s)
			}
		}
	}
}

// TestP13_1Tails has a Stop or a Term behind letters and others, what may stand behind it in every order, and then each class, right behind and further on.
func TestP13_1Tails(t *testing.T) {
	b := plain(t)
	var tails []string
	for long := range 5 {
		tails = slices.AppendSeq(tails, rows(long, closing, sp, extend))
	}
	for long := 1; long < 4; long++ {
		for s := range rows(long, closing, sp, extend, cr, lf, sep) {
			if strings.ContainsAny(s, "\r\n\u2028") {
				tails = append(tails, s)
			}
		}
	}
	for _, ahead := range []string{"", "a", "A\u0301", "\u05d0", "7", ".", "?", ")", "\n"} {
		for _, mark := range []string{".", "?"} {
			for _, tail := range tails {
				for class, behind := range byClass {
					s := ahead + mark + tail + behind
					if got, want := sentence.Bounds(s), b.Bounds(s); !slices.Equal(got, want) {
						t.Fatalf("%q: %v; want %v", s, got, want)
					}
					if class == other || class == digit || class == closing || class == on || class == extend {
						for _, last := range []string{"a", "A", "\u05d0", ".a", "\na"} {
							s := ahead + mark + tail + behind + last
							if got, want := sentence.Bounds(s), b.Bounds(s); !slices.Equal(got, want) {
								t.Fatalf("%q: %v; want %v", s, got, want)
							}
						}
					}
				}
			}
		}
	}
}

// TestP13_1Far has what decides far behind the stop, and the stop far ahead of the place.
func TestP13_1Far(t *testing.T) {
	b := plain(t)
	for _, n := range []int{1, 2, 50, 3000} {
		for _, fill := range []string{"7", "+ ", ", ", "(", ") ", "\u0301", "\xff", "\u2603", "1, (\u0301-2) \xff"} {
			far := strings.Repeat(fill, n)
			for class, last := range byClass {
				for _, s := range []string{"A. 1" + far + last, "A? 1" + far + last, "A. (" + far + last + "a", "A.x" + far + last} {
					if got, want := sentence.Bounds(s), b.Bounds(s); !slices.Equal(got, want) {
						t.Fatalf("%d of %q, then %q: %v; want %v", n, fill, last, got, want)
					}
				}
				// A small letter however far behind says that it went on.
				if got := sentence.Is("A. 1"+far+last, 3); got != (class != lower) {
					t.Errorf("%d of %q, then %q: a bound: %v", n, fill, last, got)
				}
			}
		}
		closes, blanks, marks := strings.Repeat(")", n), strings.Repeat(" ", n), strings.Repeat("\u0301", n)
		for _, tail := range []string{closes, blanks, marks, closes + blanks, marks + closes + marks + blanks + marks} {
			s := "a?" + tail + "b"
			if got := sentence.Bounds(s); !slices.Equal(got, []int{0, len(s) - 1, len(s)}) {
				t.Errorf("%d: %v", n, got)
			}
			s = "a." + tail + "b"
			if got := sentence.Bounds(s); !slices.Equal(got, []int{0, len(s)}) {
				t.Errorf("%d: %v", n, got)
			}
		}
	}
}

// TestP13_1Any has texts of any runes and bytes.
func TestP13_1Any(t *testing.T) {
	b := plain(t)
	r := rand.New(rand.NewSource(131))
	for range 6000 {
		heldByBounds(t, b, someText(r, 14))
	}
	for range 4000 {
		bytes := make([]byte, r.Intn(12))
		for i := range bytes {
			bytes[i] = "aA1.?) ,\r\n\x80\xcc\x81\xe2\x80\xa8\xff\xd7\x90"[r.Intn(19)]
		}
		heldByBounds(t, b, string(bytes))
	}
	for range 300 {
		held(t, b, someText(r, 10))
	}
}

// TestP13_1Faults has bytes that belong to no rune at both ends, between, and ahead of extenders: each is of the class Other.
func TestP13_1Faults(t *testing.T) {
	b := plain(t)
	for _, fault := range []string{"\x80", "\xff", "\xc3", "\xe2\x82", "\xf0\x9f\x87", "\xed\xa0\x80"} {
		for _, s := range byClass {
			for _, text := range []string{fault, fault + s, s + fault, s + fault + s, fault + s + fault, fault + fault, fault + "\u0301" + s, "." + fault + s, ". " + fault + s, "." + s + fault + "a", ".\u0301" + fault + "\u0301" + s, "a." + fault + "\u0301" + s + fault} {
				held(t, b, text)
				heldTrimmed(t, b.Db(), text)
			}
		}
		if s := "A. " + fault; !sentence.Is(s, 3) || sentence.Is(s+"a", 3) || sentence.Is(fault+"\u0301", len(fault)) {
			t.Errorf("%q", s)
		}
		if s := "A" + fault + ".B"; !sentence.Is(s, len(s)-1) {
			t.Errorf("%q", s)
		}
	}
}

// TestP13_1New is whether lists that are answered share nothing.
func TestP13_1New(t *testing.T) {
	x, y := sentence.Bounds("A. B"), sentence.Bounds("A. B")
	clear(x[:cap(x)])
	if want := []int{0, 3, 4}; !slices.Equal(y, want) || !slices.Equal(sentence.Bounds("A. B"), want) {
		t.Errorf("%v, %v", y, sentence.Bounds("A. B"))
	}
}

// TestP13_1Places has every place of a text, by hand.
func TestP13_1Places(t *testing.T) {
	const s = "\xff. \u00c9? \r\nb" // 0 to 2, 3 to 8, 9
	for _, x := range []struct {
		at, next, prev, from, to int
		is                       bool
	}{
		{-3, 0, 0, 0, 0, false},
		{-1, 0, 0, 0, 0, false},
		{0, 3, 0, 0, 3, true},
		{1, 3, 0, 0, 3, false},
		{2, 3, 0, 0, 3, false},
		{3, 9, 0, 3, 9, true},
		{4, 9, 3, 3, 9, false}, // within a rune
		{5, 9, 3, 3, 9, false},
		{6, 9, 3, 3, 9, false},
		{7, 9, 3, 3, 9, false},
		{8, 9, 3, 3, 9, false},
		{9, 10, 3, 9, 10, true},
		{10, 10, 9, 0, 0, true},
		{11, 10, 10, 0, 0, false},
		{99, 10, 10, 0, 0, false},
	} {
		from, to := sentence.Around(s, x.at)
		if sentence.Is(s, x.at) != x.is || sentence.Next(s, x.at) != x.next || sentence.Prev(s, x.at) != x.prev || from != x.from || to != x.to {
			t.Errorf("%v: %v, %d, %d, %d, %d", x, sentence.Is(s, x.at), sentence.Next(s, x.at), sentence.Prev(s, x.at), from, to)
		}
	}
	for _, at := range around("") {
		from, to := sentence.Around("", at)
		if sentence.Is("", at) || sentence.Next("", at) != 0 || sentence.Prev("", at) != 0 || from != 0 || to != 0 {
			t.Errorf("of nothing, at %d", at)
		}
	}
	if sentence.Count("") != 0 || len(sentence.Bounds("")) != 0 {
		t.Errorf("of nothing: %d, %v", sentence.Count(""), sentence.Bounds(""))
	}
}

// TestP13_1Left has Each and Back left at every sentence, gone over again, and nested.
func TestP13_1Left(t *testing.T) {
	const s = "\xff. A? b\r\n\nC.D. (\u201cE!\u201d) F"
	want := []pair{{0, 3}, {3, 6}, {6, 9}, {9, 10}, {10, 15}, {15, 26}, {26, 27}}
	left(t, sentence.Each(s), want)
	slices.Reverse(want)
	left(t, sentence.Back(s), want)
	if sentence.Each("") == nil || sentence.Back("") == nil || len(pairs(sentence.Each(""))) != 0 || len(pairs(sentence.Back(""))) != 0 {
		t.Errorf("of nothing")
	}
}

func left(t *testing.T, seq func(func(int, int) bool), want []pair) {
	t.Helper()
	for stop := range want {
		told := 0
		seq(func(from, to int) bool {
			if want[told] != (pair{from, to}) {
				t.Errorf("at %d: %d, %d", told, from, to)
			}
			told++
			return told <= stop
		})
		if told != stop+1 {
			t.Errorf("left at %d: %d told", stop, told)
		}
		if got := pairs(seq); !slices.Equal(got, want) {
			t.Errorf("gone over again: %v; want %v", got, want)
		}
	}
	told := 0
	for from, to := range seq {
		for x, y := range seq {
			if got := pairs(seq); !slices.Equal(got, want) {
				t.Errorf("nested twice: %v", got)
			}
			if x == from && y == to {
				break
			}
		}
		if want[told] != (pair{from, to}) {
			t.Errorf("nested: at %d: %d, %d", told, from, to)
		}
		told++
	}
	if told != len(want) {
		t.Errorf("nested: %d told", told)
	}
}

// TestP13_1Long has texts that no one would wait for, if what stands ahead or behind were looked through at each place.
func TestP13_1Long(t *testing.T) {
	const n = 200001
	rep := func(s string) string { return strings.Repeat(s, n) }
	for name, x := range map[string]struct {
		s     string
		count int
	}{
		"closing marks":            {rep(")"), 1},
		"blanks":                   {rep(" "), 1},
		"extenders":                {rep("\u0301"), 1},
		"digits":                   {rep("7"), 1},
		"stops":                    {rep("."), 1},
		"a tail":                   {"A." + rep(")") + rep("\u0301") + rep(" ") + "B", 2},
		"blanks and closing marks": {"A." + rep(" )"), 2},
		"closing marks far back":   {rep(")") + rep(" )"), 1},
		"a far small letter":       {"A. " + rep("7 ") + "b", 1},
		"a far great letter":       {"A. " + rep("7 ") + "B", 2},
		"no letter":                {"A. " + rep("(7, "), 2},
		"marks one by one":         {rep("?) \u0301("), n + 1},
		"stops one by one":         {rep(". 7"), n + 1},
		"small ones one by one":    {rep(". (a"), 1},
		"line ends":                {rep("\n"), n},
		"extended letters":         {"a" + rep("\u0301") + "." + rep("\u0301") + "B", 1},
		"sentences":                {rep("It was 3.5 m. (So?) He went, e.g. on.\r\n"), 3 * n},
	} {
		bounds := sentence.Bounds(x.s)
		if len(bounds) != x.count+1 || sentence.Count(x.s) != x.count {
			t.Errorf("%s: %d bounds, %d sentences; want %d", name, len(bounds), sentence.Count(x.s), x.count)
			continue
		}
		k := x.count
		for from, to := range sentence.Back(x.s) {
			if from != bounds[k-1] || to != bounds[k] {
				t.Fatalf("%s: back from %d to %d; want %d, %d", name, from, to, bounds[k-1], bounds[k])
			}
			k--
		}
		is := 0
		for at := range len(x.s) + 1 {
			if sentence.Is(x.s, at) {
				is++
			}
		}
		if k != 0 || is != len(bounds) {
			t.Errorf("%s: back to %d, %d places are bounds of %d", name, k, is, len(bounds))
		}
	}
}

// TestP13_3 has each end of a line at every place of a text.
func TestP13_3(t *testing.T) {
	b := plain(t)
	r := rand.New(rand.NewSource(133))
	texts := []string{"", "a", "A b. C", "A.) (b", "a\u0301.\u0301B", "\xff\xc3.", "\u0301", "\r", "\n", "\r\n", "a\r", "a?\rb", "\na", ". \u2028", "A. 7\r\nb"}
	for range 300 {
		texts = append(texts, someText(r, 7))
	}
	for _, s := range texts {
		for _, end := range []string{"\r", "\n", "\u2028", "\u2029", "\u0085", "\r\n", "\n\r"} {
			for _, at := range edges(s) {
				text := s[:at] + end + s[at:]
				paragraphs(t, text)
				heldByBounds(t, b, text)
			}
		}
	}
}

// paragraphs is P13.3, by the runes of s.
func paragraphs(t *testing.T, s string) {
	t.Helper()
	places, l := edges(s), utf.Runes(s)
	for k, r := range l {
		at := places[k+1]
		switch {
		case r == '\r' && k+1 < len(l) && l[k+1] == '\n':
			if sentence.Is(s, at) {
				t.Fatalf("%q: a bound at %d", s, at)
			}
		case slices.Contains([]rune{'\r', '\n', 0x85, 0x2028, 0x2029}, r):
			if !sentence.Is(s, at) {
				t.Fatalf("%q: no bound at %d", s, at)
			}
		}
	}
}

// TestP13_4 is that nothing is cut ahead of an extender, but behind the end of a line.
func TestP13_4(t *testing.T) {
	d := plain(t).Db()
	r := rand.New(rand.NewSource(134))
	seen := 0
	for range 20000 {
		s := someText(r, 12)
		places, c := edges(s), d.Of(s)
		for k := 1; k < len(c); k++ {
			if c[k] != extend {
				continue
			}
			seen++
			if got, want := sentence.Is(s, places[k]), c[k-1] == cr || c[k-1] == lf || c[k-1] == sep; got != want {
				t.Fatalf("%q: a bound at %d: %v; want %v", s, places[k], got, want)
			}
		}
	}
	if seen < 1000 {
		t.Errorf("%d extenders", seen)
	}
	if !sentence.Is("\u0301a", 0) {
		t.Errorf("no bound at 0")
	}
}

// TestP13_5 is that the sentences are the text, and what each but the last ends with.
func TestP13_5(t *testing.T) {
	d := plain(t).Db()
	r := rand.New(rand.NewSource(135))
	for range 10000 {
		s := someText(r, 16)
		var whole strings.Builder
		end := 0
		for from, to := range sentence.Each(s) {
			if from != end || to <= from || !utf.Is(s, from) || !utf.Is(s, to) {
				t.Fatalf("%q: from %d to %d", s, from, to)
			}
			c := d.Of(s[from:to])
			last := c[len(c)-1]
			if to < len(s) && sentence.Kind(s, from, to) == 0 && last != cr && last != lf && last != sep {
				t.Fatalf("%q: %q is no sentence", s, s[from:to])
			}
			whole.WriteString(s[from:to])
			end = to
		}
		if whole.String() != s || strings.Join(sentences(s), "") != s {
			t.Fatalf("%q: %q", s, whole.String())
		}
	}
}

// TestP13_5Pieces is that a text that comes in pieces has the same sentences, and so has its Clean form (P1, P6 of the whole).
func TestP13_5Pieces(t *testing.T) {
	b := plain(t)
	r := rand.New(rand.NewSource(1351))
	for range 1500 {
		s := someText(r, 14)
		var parts []string
		for rest := s; rest != ""; {
			n := 1 + r.Intn(min(3, len(rest)))
			parts, rest = append(parts, rest[:n]), rest[n:]
		}
		got := slices.Collect(stream.Segments(b.Db(), b.Rules(), slices.Values(parts)))
		if want := sentences(s); !slices.Equal(got, want) {
			t.Fatalf("%q: %q; want %q", s, got, want)
		}
		clean := utf.Clean(s)
		from, to := edges(s), edges(clean)
		for k := range from {
			if sentence.Is(s, from[k]) != sentence.Is(clean, to[k]) {
				t.Fatalf("%q: the rune number %d", s, k)
			}
		}
	}
}
