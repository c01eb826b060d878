package grapheme_test

import (
	"math/rand"
	"slices"
	"testing"

	"kerf/breaker"
	"kerf/grapheme"
)

// aheads and behinds are what may stand around a text: of each class, of several, of bytes that belong to no rune.
func aheads() []string {
	l := append([]string{""}, byClass...)
	for class := range byClass {
		l = append(l, of(class, flag), of(class, pict), of(class, prepend), of(pict, class), of(flag, class))
	}
	l = append(l, of(flag, flag, flag), of(pict, extend, extend), of(pict, zwj, extend), of(other, flag, flag), of(pict, extend, zwj))
	return append(l, "\xff", "\x80", "\xe2", "\xe2\x80", "\xf0\x9f\x87", byClass[prepend]+"\xff", "\xffx")
}

func behinds() []string {
	l := append([]string{""}, byClass...)
	for class := range byClass {
		l = append(l, of(class, extend), of(extend, class))
	}
	return append(l, of(flag, flag), of(lf, lf), "\xff", "\x80", "\xa6", "\x87\xa6", "\xcc", "x\xff")
}

// frame is what stands ahead of a text, and what behind it.
type frame struct{ ahead, behind string }

func frames(aheads, behinds []string) []frame {
	var l []frame
	for _, ahead := range aheads {
		for _, behind := range behinds {
			l = append(l, frame{ahead, behind})
		}
	}
	return l
}

// plainSafe is whether what is at the place at of s is the same in whatever of these frames s stands.
func plainSafe(b *breaker.Breaker, s string, at int, l []frame) bool {
	if !slices.Contains(edges(s), at) {
		return false
	}
	is := b.Is(s, at)
	for _, x := range l {
		if b.Is(x.ahead+s+x.behind, len(x.ahead)+at) != is && apart(x.ahead, s, x.behind) {
			return false
		}
	}
	return true
}

func heldSafe(t *testing.T, b *breaker.Breaker, s string, l []frame) {
	t.Helper()
	for _, at := range around(s) {
		if got, want := grapheme.Safe(s, at), plainSafe(b, s, at, l); got != want {
			t.Fatalf("%q at %d: %v; want %v", s, at, got, want)
		}
	}
}

// TestP11_2SafeRows has every place of every row of up to three classes.
func TestP11_2SafeRows(t *testing.T) {
	b := plain(t)
	each := frames(aheads(), behinds())
	for long := range 3 {
		for s := range rows(long, all()...) {
			heldSafe(t, b, s, each)
		}
	}
	one := append(frames(aheads(), []string{""}), frames([]string{"", byClass[prepend], byClass[cr]}, behinds())...)
	for s := range rows(3, all()...) {
		heldSafe(t, b, s, one)
	}
}

// TestP11_2SafeFurther has longer rows of the classes that look further back, and texts of any runes and bytes.
func TestP11_2SafeFurther(t *testing.T) {
	b := plain(t)
	few := frames(
		[]string{"", byClass[flag], byClass[pict], of(pict, extend), of(pict, zwj), byClass[prepend], byClass[cr], of(flag, flag), "x", "\xff"},
		[]string{"", byClass[extend], byClass[lf], "x"},
	)
	for _, classes := range [][]int{{flag, other, extend}, {flag, prepend, zwj}, {pict, extend, zwj}, {pict, zwj, mark}, {zwj, extend, flag}} {
		for long := 4; long <= 5; long++ {
			for s := range rows(long, classes...) {
				heldSafe(t, b, s, few)
			}
		}
	}
	r := rand.New(rand.NewSource(1125))
	for range 1000 {
		heldSafe(t, b, someText(r, 9), few)
	}
}

// TestP11_2SafeExamples are those of the chapter, and more by hand.
func TestP11_2SafeExamples(t *testing.T) {
	flags := of(flag, flag)
	for _, x := range []struct {
		s    string
		at   int
		want bool
	}{
		{"ab", 1, true}, {flags, 4, false}, {"a", 0, false}, {"\nb", 1, true},
		{"", 0, false}, {"", 1, false}, {"", -1, false},
		{"ab", -1, false}, {"ab", 0, false}, {"ab", 2, false}, {"ab", 3, false},
		{"\u00e9x", 1, false}, {"\u00e9x", 2, true},
		{"\xe2\x82x", 1, true}, {"\xe2\x82x", 2, true}, {"\xe2\x82", 2, false}, {"\xe2\x82", 0, false},
		{"\r", 0, true}, {"\r", 1, false}, {"\n", 0, false}, {"\n", 1, true}, {"\x00", 0, true}, {"\x00", 1, true}, {"\r\n", 1, true}, {"\r\n", 0, true}, {"\r\n", 2, true},
		{"e\u0301", 1, true}, {"\u0301e", 2, true}, {"\u0301", 0, false},
		{"x" + flags, 5, true}, {"x" + flags + flags, 9, true}, {flags + flags, 8, false}, {flags + "\u0301" + flags, 14, true},
		{"\u200d\U0001f468", 3, false}, {"\u0301\u200d\U0001f468", 5, false}, {"x\u200d\U0001f468", 4, true}, {"\U0001f468\u200d\U0001f468", 7, true}, {"\u200d\u200d\U0001f468", 6, true}, {"\xff\u0301\u200d\U0001f468", 6, true},
		{"\u1100\u1161", 3, true}, {"\u0600a", 2, true},
	} {
		if got := grapheme.Safe(x.s, x.at); got != x.want {
			t.Errorf("%q at %d: %v", x.s, x.at, got)
		}
	}
}
