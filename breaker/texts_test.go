package breaker_test

import (
	"math/rand"
	"slices"
	"strings"
	"sync"
	"testing"

	"kerf/api"
	"kerf/utf"
)

const (
	lettersProps = "'a'-'z' ; Letter\n' ' ; Blank\n"
	lettersRules = "Letter ~ Letter\nBlank ~ Blank\n"
)

// TestP9_3Examples are those of the chapter.
func TestP9_3Examples(t *testing.T) {
	b := parsed(t, lettersProps, lettersRules)
	for _, x := range []struct {
		s    string
		want []int
	}{
		{"ab  c", []int{0, 2, 4, 5}},
		{"a\xff\xffb", []int{0, 1, 2, 3, 4}},
		{"", nil},
		{"a", []int{0, 1}},
		{"\xff", []int{0, 1}},
		{"\u4e00", []int{0, 3}},
		{"\U0001f600", []int{0, 4}},
		{"\xffab\xff", []int{0, 1, 3, 4}},
		{"ab\u00e9\U0001f600 \u4e00c", []int{0, 2, 4, 8, 9, 12, 13}},
		{"\xe2\x82ab\xf0\x9f\x98", []int{0, 1, 2, 4, 5, 6, 7}},
	} {
		if got := b.Bounds(x.s); !slices.Equal(got, x.want) {
			t.Errorf("%q: %v; want %v", x.s, got, x.want)
		}
	}
	const s = "ab c"
	for _, x := range []struct{ got, want int }{
		{b.Next(s, 0), 2}, {b.Next(s, -5), 0}, {b.Next(s, 9), 4}, {b.Prev(s, 4), 3}, {b.Prev(s, 0), 0},
		{b.Rule(s, 1), 0}, {b.Rule(s, 2), -1}, {b.Count(s), 3},
	} {
		if x.got != x.want {
			t.Errorf("%d; want %d", x.got, x.want)
		}
	}
	if from, to := b.Around(s, 1); from != 0 || to != 2 {
		t.Errorf("Around 1: %d, %d", from, to)
	}
	if from, to := b.Around(s, 4); from != 0 || to != 0 {
		t.Errorf("Around 4: %d, %d", from, to)
	}
}

// TestP9_3Chapter8 has the first example of chapter 8, in bytes.
func TestP9_3Chapter8(t *testing.T) {
	b := parsed(t, "U+000D ; Cr\nU+000A ; Lf\nU+0301 ; Mark\n", "Cr ~ Lf\n(Cr | Lf) /\n/ (Cr | Lf)\n. ~ Mark\n")
	const s = "\u4e00\u0301\r\nx"
	if got := b.Bounds(s); !slices.Equal(got, []int{0, 5, 7, 8}) {
		t.Errorf("%v", got)
	}
	for at, want := range []int{-1, -1, -1, 3, -1, 2, 0, 1, -1} {
		if got := b.Rule(s, at); got != want {
			t.Errorf("Rule at %d: %d; want %d", at, got, want)
		}
	}
}

// TestP9_3Held holds all calls on texts against chapter 8.
func TestP9_3Held(t *testing.T) {
	r := rand.New(rand.NewSource(93))
	d := db(t, fewProps)
	for range 600 {
		rs := someRules(r, 4, 6)
		b := made(t, d, rs)
		for range 4 {
			held(t, b, d, rs, someText(r, 8))
		}
	}
}

// TestP9_3Grapheme has the rules of chapter 11 over texts of their classes.
func TestP9_3Grapheme(t *testing.T) {
	b := parsed(t, api.GraphemeProps, api.GraphemeRules)
	l := []string{"e", "\u0301", "\r", "\n", "\u200d", "\u0903", "\u0600", "\u1100", "\u1161", "\u11a8", "\uac00", "\u2190", "\U0001f400", "\U0001f1e6", "\U0001f1e7", "\x80", "\U0001f3fb"}
	r := rand.New(rand.NewSource(11))
	for range 500 {
		var s strings.Builder
		for range r.Intn(12) {
			s.WriteString(l[r.Intn(len(l))])
		}
		held(t, b, b.Db(), b.Rules(), s.String())
	}
	if got := b.Bounds("\U0001f1e6\U0001f1e6\U0001f1e6"); !slices.Equal(got, []int{0, 8, 12}) {
		t.Errorf("three flag letters: %v", got)
	}
}

// TestP9_3Long has a text that no one would wait for, if all that stands around were looked through at each place.
func TestP9_3Long(t *testing.T) {
	b := parsed(t, fewProps, "A Other* ~ Other* A\nA Other* / Other* B\nrest ~")
	s := "a" + strings.Repeat("x", 300000) + "b"
	if got := b.Count(s); got != len(s) {
		t.Errorf("%d pieces", got)
	}
	s += "a"
	if got := b.Count("a" + s[len(s)/2:]); got != len(s)-len(s)/2 {
		t.Errorf("%d pieces", got)
	}
	if got := b.Bounds(s[:len(s)-2] + "a"); !slices.Equal(got, []int{0, len(s) - 1}) {
		t.Errorf("%d bounds", len(got))
	}
}

// TestP9_3New is whether answers share nothing.
func TestP9_3New(t *testing.T) {
	b := parsed(t, lettersProps, lettersRules)
	x, y := b.Bounds("ab cd"), b.Bounds("ab cd")
	each := b.Each("ab cd")
	clear(x[:cap(x)])
	if want := []int{0, 2, 3, 5}; !slices.Equal(y, want) || !slices.Equal(b.Bounds("ab cd"), want) {
		t.Errorf("%v, %v", y, b.Bounds("ab cd"))
	}
	if got := pairs(each); !slices.Equal(got, []pair{{0, 2}, {2, 3}, {3, 5}}) {
		t.Errorf("Each %v", got)
	}
}

// TestP9_4Left has Each and Back left at every piece, gone over again, and nested.
func TestP9_4Left(t *testing.T) {
	b := parsed(t, lettersProps, lettersRules)
	const s = "ab  \xffcd \u4e00x"
	forward := []pair{{0, 2}, {2, 4}, {4, 5}, {5, 7}, {7, 8}, {8, 11}, {11, 12}}
	backward := slices.Clone(forward)
	slices.Reverse(backward)
	for _, x := range []struct {
		seq  func(func(int, int) bool)
		want []pair
	}{{b.Each(s), forward}, {b.Back(s), backward}} {
		for stop := range x.want {
			var got []pair
			for from, to := range x.seq {
				if got = append(got, pair{from, to}); len(got) == stop+1 {
					break
				}
			}
			if !slices.Equal(got, x.want[:stop+1]) {
				t.Errorf("left at %d: %v", stop, got)
			}
			told := 0
			x.seq(func(int, int) bool { told++; return told <= stop })
			if told != stop+1 {
				t.Errorf("left at %d: %d told", stop, told)
			}
			if got := pairs(x.seq); !slices.Equal(got, x.want) {
				t.Errorf("gone over again: %v", got)
			}
		}
	}
	each, back := b.Each(s), b.Back(s)
	i := 0
	for from, to := range each {
		if forward[i] != (pair{from, to}) {
			t.Errorf("Each at %d: %d, %d", i, from, to)
		}
		i++
		j := 0
		for from, to := range back {
			if backward[j] != (pair{from, to}) {
				t.Errorf("Back in Each at %d: %d, %d", j, from, to)
			}
			if j++; j == i {
				break
			}
		}
		if got := pairs(each); !slices.Equal(got, forward) {
			t.Errorf("Each in itself: %v", got)
		}
	}
	if i != len(forward) || b.Count(s) != len(forward) {
		t.Errorf("%d pieces, Count %d", i, b.Count(s))
	}
	if b.Each("") == nil || b.Back("") == nil || len(pairs(b.Each(""))) != 0 || len(pairs(b.Back(""))) != 0 || b.Count("") != 0 {
		t.Errorf("pieces of nothing")
	}
}

// TestP9_5Places has every place of a text with runes of all lengths and faults, by hand.
func TestP9_5Places(t *testing.T) {
	b := parsed(t, "'a' U+00E9 U+4E00 U+1F600 ; A\n", "A ~ A")
	const s = "\xffa\u00e9\x80\u4e00\U0001f600\xe2" // 0, 1-3, 4, 5-11, 12
	if got := b.Bounds(s); !slices.Equal(got, []int{0, 1, 4, 5, 12, 13}) {
		t.Fatalf("%v", got)
	}
	for _, x := range []struct {
		at, next, prev, from, to, rule int
		is                             bool
	}{
		{-3, 0, 0, 0, 0, -1, false},
		{-1, 0, 0, 0, 0, -1, false},
		{0, 1, 0, 0, 1, -1, true},
		{1, 4, 0, 1, 4, -1, true},
		{2, 4, 1, 1, 4, 0, false},
		{3, 4, 1, 1, 4, -1, false}, // within a rune
		{4, 5, 1, 4, 5, -1, true},
		{5, 12, 4, 5, 12, -1, true},
		{6, 12, 5, 5, 12, -1, false},
		{7, 12, 5, 5, 12, -1, false},
		{8, 12, 5, 5, 12, 0, false},
		{9, 12, 5, 5, 12, -1, false},
		{11, 12, 5, 5, 12, -1, false},
		{12, 13, 5, 12, 13, -1, true},
		{13, 13, 12, 0, 0, -1, true},
		{14, 13, 13, 0, 0, -1, false},
		{99, 13, 13, 0, 0, -1, false},
	} {
		from, to := b.Around(s, x.at)
		if b.Is(s, x.at) != x.is || b.Next(s, x.at) != x.next || b.Prev(s, x.at) != x.prev || from != x.from || to != x.to || b.Rule(s, x.at) != x.rule {
			t.Errorf("%v: %v, %d, %d, %d, %d, %d", x, b.Is(s, x.at), b.Next(s, x.at), b.Prev(s, x.at), from, to, b.Rule(s, x.at))
		}
	}
	for _, at := range around("") {
		from, to := b.Around("", at)
		if b.Is("", at) || b.Next("", at) != 0 || b.Prev("", at) != 0 || from != 0 || to != 0 || b.Rule("", at) != -1 {
			t.Errorf("of nothing, at %d", at)
		}
	}
}

func TestP9_6First(t *testing.T) {
	b := parsed(t, fewProps, "B ~ B\nA /\n/ A\n^ B C ~\n~ C $\nrest ~")
	const s = "b\u0301xabbcx\u0301"
	var got []int
	for _, at := range plainEdges(s) {
		got = append(got, b.Rule(s, at))
	}
	if want := []int{-1, -1, 3, 2, 1, 0, -1, -1, 4, -1}; !slices.Equal(got, want) {
		t.Errorf("%v; want %v", got, want)
	}
}

// TestP9_8Pieces puts pieces together again.
func TestP9_8Pieces(t *testing.T) {
	r := rand.New(rand.NewSource(98))
	d := db(t, fewProps)
	for range 300 {
		b, s := made(t, d, someRules(r, 4, 5)), someText(r, 12)
		whole, pieces := "", 0
		for from, to := range b.Each(s) {
			if from >= to || from != len(whole) || !utf.Is(s, from) || !utf.Is(s, to) {
				t.Fatalf("%q: %d, %d behind %q", s, from, to, whole)
			}
			whole += s[from:to]
			pieces++
		}
		back := ""
		for from, to := range b.Back(s) {
			back = s[from:to] + back
		}
		if whole != s || back != s || pieces != b.Count(s) {
			t.Fatalf("%q: %q, %q, %d pieces", s, whole, back, pieces)
		}
	}
}

// TestP9_9Classes has texts of the same classes, and a text and its Clean.
func TestP9_9Classes(t *testing.T) {
	r := rand.New(rand.NewSource(99))
	d := db(t, fewProps)
	byClass := [][]string{{"x", "\u20ac", "\U0010ffff", "\n"}, {"a", "\u00e1", "\U0001f600"}, {"b", "\u4e00"}, {"\ufffd", "\u0301", "\xff", "\xc0"}}
	numbers := func(s string, bounds []int) []int {
		var l []int
		for _, at := range bounds {
			l = append(l, slices.Index(plainEdges(s), at))
		}
		return l
	}
	for range 300 {
		b := made(t, d, someRules(r, 4, 5))
		s := someText(r, 10)
		like := ""
		for _, class := range d.Of(s) {
			like += byClass[class][r.Intn(len(byClass[class]))]
		}
		clean := utf.Clean(s)
		want := numbers(s, b.Bounds(s))
		if got := numbers(like, b.Bounds(like)); !slices.Equal(got, want) {
			t.Fatalf("%q: %v; %q: %v", s, want, like, got)
		}
		if got := numbers(clean, b.Bounds(clean)); !slices.Equal(got, want) {
			t.Fatalf("%q: %v; clean: %v", s, want, got)
		}
	}
}

// TestP9_7AtOnce has several goroutines that use one breaker.
func TestP9_7AtOnce(t *testing.T) {
	b := parsed(t, lettersProps, lettersRules)
	const s = "ab  \xffc \u4e00"
	bounds, rs := b.Bounds(s), b.Rules()
	var group sync.WaitGroup
	for range 8 {
		group.Go(func() {
			for range 50 {
				spoil(b.Rules())
				spoilDfa(b.Left(0))
				spoilDfa(b.Right(1))
				from, to := b.Around(s, 2)
				if !slices.Equal(b.Bounds(s), bounds) || !same(b.Rules(), rs) || b.Rule(s, 3) != 1 || from != 2 || to != 4 || b.Count(s) != 6 {
					t.Errorf("at once: %v, %v", b.Bounds(s), b.Rules())
				}
			}
		})
	}
	group.Wait()
}
