package word_test

import (
	"math/rand"
	"slices"
	"strings"
	"testing"

	"kerf/api"
	"kerf/utf"
	"kerf/word"
)

// TestP12_1Examples are those of the chapter, and of the rules one by one.
func TestP12_1Examples(t *testing.T) {
	for _, x := range []struct {
		s    string
		want []string
	}{
		{"can't stop 3.14!", []string{"can't", " ", "stop", " ", "3.14", "!"}},
		{"a..b", []string{"a", ".", ".", "b"}},
		{"e\u0301\r\n\u0301x", []string{"e\u0301", "\r\n", "\u0301", "x"}},
		{"\xff\xffab", []string{"\xff", "\xff", "ab"}},
		{"1,5", []string{"1,5"}},
		{"1, 5", []string{"1", ",", " ", "5"}},
		{"\U0001f1e6\U0001f1e7\U0001f1e8\U0001f1e9", []string{"\U0001f1e6\U0001f1e7", "\U0001f1e8\U0001f1e9"}},
		{"", nil},
		{"\r\n\n\r", []string{"\r\n", "\n", "\r"}},
		{"\u200d\u2603", []string{"\u200d\u2603"}},
		{"\u2603\u200d\u2603\u2603", []string{"\u2603\u200d\u2603", "\u2603"}},
		{"   x", []string{"   ", "x"}},
		{" \u0301 ", []string{" \u0301", " "}},
		{"a\u0301'\u00adb", []string{"a\u0301'\u00adb"}},
		{"a'\u00ad!", []string{"a", "'\u00ad", "!"}},
		{"a:b,c.d", []string{"a:b", ",", "c.d"}},
		{"1:2,3.4'5;6", []string{"1", ":", "2,3.4'5;6"}},
		{"a.1.b", []string{"a", ".", "1", ".", "b"}},
		{"\u05d0'", []string{"\u05d0'"}},
		{"\u05d0\"\u05d1\"", []string{"\u05d0\"\u05d1", "\""}},
		{"\u05d0\"a", []string{"\u05d0", "\"", "a"}},
		{"a\"b", []string{"a", "\"", "b"}},
		{"a1b2", []string{"a1b2"}},
		{"\u30ab\u30ad1", []string{"\u30ab\u30ad", "1"}},
		{"\u30ab_a_1__", []string{"\u30ab_a_1__"}},
		{"\u30aba", []string{"\u30ab", "a"}},
		{"!_!", []string{"!", "_", "!"}},
		{"\n\u0301\U0001f1e6\U0001f1e7\U0001f1e8", []string{"\n", "\u0301", "\U0001f1e6\U0001f1e7", "\U0001f1e8"}},
	} {
		if got := pieces(x.s); !slices.Equal(got, x.want) {
			t.Errorf("%q: %q; want %q", x.s, got, x.want)
		}
		var want []int
		if x.s != "" {
			want = []int{0}
		}
		for at, piece := 0, 0; piece < len(x.want); piece++ {
			at += len(x.want[piece])
			want = append(want, at)
		}
		if got := word.Bounds(x.s); !slices.Equal(got, want) {
			t.Errorf("%q: %v; want %v", x.s, got, want)
		}
	}
}

// TestP12_1Rows has every row of up to three classes, by all calls of the breaker.
func TestP12_1Rows(t *testing.T) {
	b := plain(t)
	for long := range 4 {
		for s := range rows(long, all()...) {
			held(t, b, s)
		}
	}
}

// TestP12_1Further has longer rows of the classes that look further ahead or back, and those that stand among them.
func TestP12_1Further(t *testing.T) {
	b := plain(t)
	for _, x := range []struct {
		long    int
		classes []int
	}{
		{6, []int{letter, digit, midNumLet, extend}}, {5, []int{hebrew, double, quote, zwj, letter}}, {6, []int{digit, midNum, quote, format}}, {6, []int{letter, midLetter, zwj}},
		{5, []int{letter, quote, extend, pict}}, {4, []int{letter, hebrew, digit, midLetter, midNumLet, midNum, quote, double}}, {5, []int{katakana, low, letter, digit, format}},
		{8, []int{region, extend}}, {6, []int{region, extend, other}}, {6, []int{region, zwj, pict}}, {6, []int{region, format, lf}}, {5, []int{region, letter, zwj, quote}},
		{5, []int{space, extend, zwj, pict}}, {5, []int{cr, lf, newline, extend}}, {5, []int{letter, lf, extend, quote}},
	} {
		for long := 4; long <= x.long; long++ {
			for s := range rows(long, x.classes...) {
				heldByBounds(t, b, s)
			}
		}
	}
}

// TestP12_1Any has texts of any runes and bytes.
func TestP12_1Any(t *testing.T) {
	b := plain(t)
	r := rand.New(rand.NewSource(121))
	for range 4000 {
		heldByBounds(t, b, someText(r, 14))
	}
	for range 4000 {
		bytes := make([]byte, r.Intn(12))
		for i := range bytes {
			bytes[i] = "a1'\r\n\x80\xcc\x81\xe2\x80\x8d\xf0\x9f\x87\xa6\xa7\xff\xd7\x90"[r.Intn(19)]
		}
		heldByBounds(t, b, string(bytes))
	}
	for range 300 {
		held(t, b, someText(r, 10))
	}
}

// TestP12_1Faults has bytes that belong to no rune at both ends, between, and ahead of marks: each is of the class Other.
func TestP12_1Faults(t *testing.T) {
	b := plain(t)
	for _, fault := range []string{"\x80", "\xff", "\xc3", "\xe2\x82", "\xf0\x9f\x87", "\xed\xa0\x80"} {
		for class, s := range byClass {
			for _, text := range []string{fault, fault + s, s + fault, s + fault + s, fault + s + fault, fault + fault, fault + s + byClass[extend], s + byClass[quote] + fault + s} {
				held(t, b, text)
			}
			clings := class == extend || class == zwj || class == format
			if got := word.Is(fault+s, len(fault)); got == clings {
				t.Errorf("%q: a bound at %d: %v", fault+s, len(fault), got)
			}
		}
	}
}

// TestP12_1New is whether lists that are answered share nothing.
func TestP12_1New(t *testing.T) {
	x, y := word.Bounds("a b"), word.Bounds("a b")
	clear(x[:cap(x)])
	if want := []int{0, 1, 2, 3}; !slices.Equal(y, want) || !slices.Equal(word.Bounds("a b"), want) {
		t.Errorf("%v, %v", y, word.Bounds("a b"))
	}
}

// TestP12_2Places has every place of a text, by hand.
func TestP12_2Places(t *testing.T) {
	const s = "\xffe\u0301'a \r\nb" // 0, 1-5, 6, 7-8, 9
	for _, x := range []struct {
		at, next, prev, from, to int
		is                       bool
	}{
		{-3, 0, 0, 0, 0, false},
		{-1, 0, 0, 0, 0, false},
		{0, 1, 0, 0, 1, true},
		{1, 6, 0, 1, 6, true},
		{2, 6, 1, 1, 6, false},
		{3, 6, 1, 1, 6, false}, // within a rune
		{4, 6, 1, 1, 6, false},
		{5, 6, 1, 1, 6, false},
		{6, 7, 1, 6, 7, true},
		{7, 9, 6, 7, 9, true},
		{8, 9, 7, 7, 9, false},
		{9, 10, 7, 9, 10, true},
		{10, 10, 9, 0, 0, true},
		{11, 10, 10, 0, 0, false},
		{99, 10, 10, 0, 0, false},
	} {
		from, to := word.Around(s, x.at)
		if word.Is(s, x.at) != x.is || word.Next(s, x.at) != x.next || word.Prev(s, x.at) != x.prev || from != x.from || to != x.to {
			t.Errorf("%v: %v, %d, %d, %d, %d", x, word.Is(s, x.at), word.Next(s, x.at), word.Prev(s, x.at), from, to)
		}
	}
	for _, at := range around("") {
		from, to := word.Around("", at)
		if word.Is("", at) || word.Next("", at) != 0 || word.Prev("", at) != 0 || from != 0 || to != 0 {
			t.Errorf("of nothing, at %d", at)
		}
	}
}

// TestP12_2Left has Each left at every piece, gone over again, and nested.
func TestP12_2Left(t *testing.T) {
	const s = "\xffab\r\n\U0001f1e6\U0001f1e7\U0001f1e8 3.1"
	want := []pair{{0, 1}, {1, 3}, {3, 5}, {5, 13}, {13, 17}, {17, 18}, {18, 21}}
	each := word.Each(s)
	for stop := range want {
		told := 0
		each(func(from, to int) bool {
			if want[told] != (pair{from, to}) {
				t.Errorf("at %d: %d, %d", told, from, to)
			}
			told++
			return told <= stop
		})
		if told != stop+1 {
			t.Errorf("left at %d: %d told", stop, told)
		}
		if got := pairs(each); !slices.Equal(got, want) {
			t.Errorf("gone over again: %v", got)
		}
	}
	told := 0
	for from, to := range each {
		for x, y := range each {
			if got := pairs(each); !slices.Equal(got, want) {
				t.Errorf("nested twice: %v", got)
			}
			if x == from && y == to {
				break
			}
		}
		if want[told] != (pair{from, to}) {
			t.Errorf("nested: at %d: %d, %d", told, from, to)
		}
		told++
	}
	if told != len(want) {
		t.Errorf("nested: %d told", told)
	}
	if word.Each("") == nil || len(pairs(word.Each(""))) != 0 {
		t.Errorf("of nothing")
	}
}

// TestP12_2Long has texts that no one would wait for, if what stands ahead were looked through at each piece, or the whole at each place.
func TestP12_2Long(t *testing.T) {
	const n = 200001
	regions := strings.Repeat(byClass[region], n)
	if got := len(word.Bounds(regions)); got != n/2+2 {
		t.Errorf("regions: %d bounds", got)
	}
	if from, to, ok := word.Before("a"+regions, 4*n); from != 0 || to != 1 || !ok {
		t.Errorf("regions: a word ahead from %d to %d, %v", from, to, ok)
	}
	if from, to, ok := word.After(regions+"a", 3); from != 4*n || to != 4*n+1 || !ok {
		t.Errorf("regions: a word behind from %d to %d, %v", from, to, ok)
	}
	marks := strings.Repeat(byClass[extend], n)
	for _, s := range []string{"a" + marks, marks, "a'" + marks + "b", "1" + marks + "," + marks + "2", byClass[region] + marks + byClass[region] + marks} {
		if got := word.Bounds(s); !slices.Equal(got, []int{0, len(s)}) {
			t.Errorf("marks: %d bounds", len(got))
		}
		if got := word.Prev(s, len(s)); got != 0 {
			t.Errorf("marks: back at %d", got)
		}
		if got := word.Next(s, 0); got != len(s) {
			t.Errorf("marks: on at %d", got)
		}
	}
	text := strings.Repeat("it's 3.14 \u05d0\"\u05d0,\r\n", n)
	at := 0
	for range 6 * n {
		if at = word.Next(text, at); !word.Is(text, at) {
			t.Fatalf("no bound at %d", at)
		}
	}
	if at == 0 || word.Count(text) != 3*n {
		t.Errorf("on at %d, %d words", at, word.Count(text))
	}
	for range 6 * n {
		at = word.Prev(text, at)
	}
	if at != 0 {
		t.Errorf("back at %d", at)
	}
}

// TestP12_3Examples has kinds by hand.
func TestP12_3Examples(t *testing.T) {
	for s, want := range map[string]int{
		"3a": api.WordLetter, "  ": api.WordSpace, "": api.WordOther, "7": api.WordNumber, "\r\n": api.WordBreak, " \u0301": api.WordSpace, " !": api.WordOther, "! ": api.WordOther,
		"\u0301": api.WordOther, "\u0301\u00ad\u200d": api.WordOther, "\u200d \u00ad": api.WordSpace, "\xff": api.WordOther, " \xff": api.WordOther, "\xffa\xff": api.WordLetter, "\xc3 7": api.WordNumber, " \n ": api.WordBreak,
		"\n7": api.WordNumber, "!\u2028": api.WordBreak, "\u05d0": api.WordLetter, "\u30ab": api.WordLetter, "\u3000": api.WordSpace, "_": api.WordOther, " _": api.WordOther, "\U0001f1e6": api.WordOther, "\u4e00": api.WordOther, "'": api.WordOther,
		"a b\n3": api.WordLetter, "\u0667 \n": api.WordNumber,
	} {
		if got := word.Kind(s); got != want {
			t.Errorf("%q: %d; want %d", s, got, want)
		}
	}
}

// TestP12_3Rows has the kind of every row of up to three classes, and of texts of any runes and bytes.
func TestP12_3Rows(t *testing.T) {
	b := plain(t)
	r := rand.New(rand.NewSource(123))
	var texts []string
	for long := range 4 {
		texts = slices.AppendSeq(texts, rows(long, all()...))
	}
	for long := 4; long <= 5; long++ {
		texts = slices.AppendSeq(texts, rows(long, space, extend, format, zwj, other, lf))
	}
	for range 3000 {
		texts = append(texts, someText(r, 8))
	}
	for _, s := range texts {
		if got, want := word.Kind(s), plainKind(b, s); got != want {
			t.Errorf("%q: %d; want %d", s, got, want)
		}
	}
}

// TestP12_4Examples are those of the chapter.
func TestP12_4Examples(t *testing.T) {
	for _, x := range []struct {
		s    string
		want []found
	}{
		{"can't stop 3.14!", []found{{0, "can't"}, {6, "stop"}, {11, "3.14"}}},
		{"", nil},
		{"!? \r\n_ \u0301 \xff", nil},
		{" a ", []found{{1, "a"}}},
		{"\u30aba\u30ab", []found{{0, "\u30ab"}, {3, "a"}, {4, "\u30ab"}}},
		{"1\u30ab_2", []found{{0, "1"}, {1, "\u30ab_2"}}},
	} {
		if got := words(word.Words(x.s)); !slices.Equal(got, x.want) {
			t.Errorf("%q: %v; want %v", x.s, got, x.want)
		}
		if got := word.Count(x.s); got != len(x.want) {
			t.Errorf("%q: Count %d; want %d", x.s, got, len(x.want))
		}
	}
}

// TestP12_4Places has After and Before at every place of texts with no word, one, several, and words side by side.
func TestP12_4Places(t *testing.T) {
	type row struct {
		at            int
		after, before pair // -1: none
	}
	none := pair{-1, -1}
	for s, rows := range map[string][]row{
		"a bc":     {{-7, pair{0, 1}, none}, {0, pair{0, 1}, none}, {1, pair{2, 4}, pair{0, 1}}, {2, pair{2, 4}, pair{0, 1}}, {3, none, pair{0, 1}}, {4, none, pair{2, 4}}, {5, none, pair{2, 4}}, {99, none, pair{2, 4}}},
		" \u00e9 ": {{-1, pair{1, 3}, none}, {0, pair{1, 3}, none}, {1, pair{1, 3}, none}, {2, none, none}, {3, none, pair{1, 3}}, {4, none, pair{1, 3}}, {5, none, pair{1, 3}}},
		"":         {{-1, none, none}, {0, none, none}, {1, none, none}},
		"! \xff":   {{-1, none, none}, {0, none, none}, {1, none, none}, {2, none, none}, {3, none, none}, {4, none, none}},
		"1\u30ab":  {{-1, pair{0, 1}, none}, {0, pair{0, 1}, none}, {1, pair{1, 4}, pair{0, 1}}, {2, none, pair{0, 1}}, {3, none, pair{0, 1}}, {4, none, pair{1, 4}}, {5, none, pair{1, 4}}},
	} {
		for _, x := range rows {
			after, before := none, none
			from, to, ok := word.After(s, x.at)
			if ok {
				after = pair{from, to}
			} else if from != 0 || to != 0 {
				t.Errorf("%q: After at %d: %d, %d, none", s, x.at, from, to)
			}
			if from, to, ok = word.Before(s, x.at); ok {
				before = pair{from, to}
			} else if from != 0 || to != 0 {
				t.Errorf("%q: Before at %d: %d, %d, none", s, x.at, from, to)
			}
			if after != x.after || before != x.before {
				t.Errorf("%q at %d: %v, %v; want %v, %v", s, x.at, after, before, x.after, x.before)
			}
		}
	}
}

// TestP12_4Left has Words left at every word, gone over again, and nested.
func TestP12_4Left(t *testing.T) {
	want := []found{{1, "ab"}, {4, "3.1"}, {7, "\u30ab"}, {12, "x'y"}}
	seq := word.Words("\xffab 3.1\u30ab, x'y!")
	for stop := range want {
		told := 0
		seq(func(at int, w string) bool {
			if want[told] != (found{at, w}) {
				t.Errorf("at %d: %d, %q", told, at, w)
			}
			told++
			return told <= stop
		})
		if told != stop+1 {
			t.Errorf("left at %d: %d told", stop, told)
		}
		if got := words(seq); !slices.Equal(got, want) {
			t.Errorf("gone over again: %v", got)
		}
	}
	told := 0
	for at, w := range seq {
		for x := range seq {
			if got := words(seq); !slices.Equal(got, want) {
				t.Errorf("nested twice: %v", got)
			}
			if x == at {
				break
			}
		}
		if want[told] != (found{at, w}) {
			t.Errorf("nested: at %d: %d, %q", told, at, w)
		}
		told++
	}
	if told != len(want) {
		t.Errorf("nested: %d told", told)
	}
	if word.Words("") == nil || len(words(word.Words(""))) != 0 {
		t.Errorf("of nothing")
	}
}

// TestP12_5 is that the pieces are the text, none of them empty, each of whole runes.
func TestP12_5(t *testing.T) {
	r := rand.New(rand.NewSource(125))
	for range 5000 {
		s := someText(r, 14)
		var whole strings.Builder
		end := 0
		for from, to := range word.Each(s) {
			if from != end || to <= from || !utf.Is(s, from) || !utf.Is(s, to) {
				t.Fatalf("%q: from %d to %d", s, from, to)
			}
			whole.WriteString(s[from:to])
			end = to
		}
		if whole.String() != s {
			t.Fatalf("%q: %q", s, whole.String())
		}
	}
}

// TestP12_6 is that words hold together, at every rune of texts of any runes and bytes.
func TestP12_6(t *testing.T) {
	d := plain(t).Db()
	r := rand.New(rand.NewSource(126))
	isLetter := func(class int) bool { return class == letter || class == hebrew }
	for range 8000 {
		s := someText(r, 12)
		places, c := edges(s), d.Of(s)
		for k := 1; k < len(c); k++ {
			x, y := c[k-1], c[k]
			kept := (isLetter(x) || x == digit) && (isLetter(y) || y == digit) || x == katakana && y == katakana
			if y == extend || y == format || y == zwj {
				kept = x != newline && x != cr && x != lf
			}
			if kept && word.Is(s, places[k]) {
				t.Fatalf("%q: a bound at %d", s, places[k])
			}
		}
	}
}

// TestP12_7 is that a byte 10 parts any two texts, of which the first does not end with a Cr.
func TestP12_7(t *testing.T) {
	r := rand.New(rand.NewSource(127))
	texts := append([]string{"", "a", "a\u0301", "\u0301", "\r", "a\r", "\xff", "\xc3", "a'", "1,", "\u05d0\"", " ", "\n", "\U0001f1e6", "\u200d"}, byClass...)
	for range 200 {
		texts = append(texts, someText(r, 6))
	}
	for _, x := range texts {
		for _, y := range texts {
			if strings.HasSuffix(x, "\r") {
				if n := len(x); word.Is(x+"\n"+y, n) || !word.Is(x+"\n"+y, n+1) {
					t.Fatalf("%q, %q: an Lf behind a Cr", x, y)
				}
				continue
			}
			want := append(word.Bounds(x), len(x), len(x)+1)
			for _, bound := range word.Bounds(y) {
				want = append(want, bound+len(x)+1)
			}
			if got := word.Bounds(x + "\n" + y); !slices.Equal(got, slices.Compact(want)) {
				t.Fatalf("%q, %q: %v; want %v", x, y, got, want)
			}
		}
	}
}

// TestP12_8 has runs of regions of odd and even numbers, behind and ahead of others.
func TestP12_8(t *testing.T) {
	for class, s := range byClass {
		if class == extend || class == format || class == zwj || class == region {
			continue
		}
		for _, ahead := range []string{"", s, "\u0301" + s, byClass[region] + s, "\xff"} {
			for _, behind := range []string{"", s, s + byClass[region], "\xff"} {
				for n := 1; n <= 9; n++ {
					text := ahead + strings.Repeat("\U0001f1e9\U0001f1ea", 5)[:4*n] + behind
					for k := 1; k < n; k++ {
						if got := word.Is(text, len(ahead)+4*k); got != (k%2 == 0) {
							t.Fatalf("%q: a bound behind %d of %d: %v", text, k, n, got)
						}
					}
				}
			}
		}
	}
	// What clings to them has no part in their number.
	if got := pieces("\U0001f1e6\u0301\U0001f1e7\u00ad\U0001f1e8\u200d"); !slices.Equal(got, []string{"\U0001f1e6\u0301\U0001f1e7\u00ad", "\U0001f1e8\u200d"}) {
		t.Errorf("%q", got)
	}
}

// TestP12_9 is that a word is one piece, and stays one where it is cut out, of letters alone or of digits alone.
func TestP12_9(t *testing.T) {
	b := plain(t)
	r := rand.New(rand.NewSource(129))
	only := func(s string, of ...int) bool {
		return !slices.ContainsFunc(b.Db().Of(s), func(class int) bool { return !slices.Contains(of, class) })
	}
	seen := 0
	for range 8000 {
		s := someText(r, 12)
		all := pairs(word.Each(s))
		some := false
		for at, w := range word.Words(s) {
			some = true
			if !slices.Contains(all, pair{at, at + len(w)}) {
				t.Fatalf("%q: %q at %d is no piece", s, w, at)
			}
			if only(w, letter, hebrew) || only(w, katakana) || only(w, digit) {
				seen++
				if got := pieces(w); !slices.Equal(got, []string{w}) {
					t.Fatalf("%q: %q cut again: %q", s, w, got)
				}
			}
		}
		makes := slices.ContainsFunc(b.Db().Of(s), func(class int) bool {
			return class == letter || class == hebrew || class == katakana || class == digit
		})
		if some != makes || some != (word.Count(s) > 0) {
			t.Fatalf("%q: words %v, letters or digits %v", s, some, makes)
		}
	}
	if seen < 1000 {
		t.Errorf("%d words of letters alone, or of digits alone", seen)
	}
}
