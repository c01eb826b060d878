package grapheme_test

import (
	"math"
	"testing"

	"kerf/api"
	"kerf/grapheme"
)

// TestP11_2Class has every rune, the surrogates, and numbers around them.
func TestP11_2Class(t *testing.T) {
	d := plain(t).Db()
	instead := d.Get(api.Instead)
	for r := rune(0); r <= api.MaxRune; r++ {
		want := d.Get(r)
		if r >= 0xd800 && r <= 0xdfff {
			want = instead
		}
		if got := grapheme.Class(r); got != want {
			t.Fatalf("%x: %d; want %d", r, got, want)
		}
	}
	for _, r := range []rune{-1, -2, -0xad, -0x300, -0x1f1e6, math.MinInt32, math.MinInt32 + 13, api.MaxRune + 1, api.MaxRune + 2, 0x1000000d, 0x200000, math.MaxInt32} {
		if got := grapheme.Class(r); got != instead {
			t.Errorf("%d: %d; want %d", r, got, instead)
		}
	}
}

// TestP11_2ClassNames has the numbers of the names.
func TestP11_2ClassNames(t *testing.T) {
	names := plain(t).Db().Names()
	for class, name := range []string{"Other", "CR", "LF", "Control", "Extend", "ZWJ", "Mark", "Prepend", "L", "V", "T", "H", "Pict", "Flag"} {
		r := []rune(byClass[class])[0]
		if got := grapheme.Class(r); got != class || names[got] != name {
			t.Errorf("%x: %d, %s; want %d, %s", r, got, names[got], class, name)
		}
	}
}
