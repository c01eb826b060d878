package sentence_test

import (
	"math"
	"slices"
	"strings"
	"testing"

	"kerf/api"
	"kerf/runes"
	"kerf/sentence"
)

// TestP13_1Class has every rune, the surrogates, and numbers around them.
func TestP13_1Class(t *testing.T) {
	d := plain(t).Db()
	instead := d.Get(api.Instead)
	for r := rune(0); r <= api.MaxRune; r++ {
		want := d.Get(r)
		if r >= 0xd800 && r <= 0xdfff {
			want = instead
		}
		if got := sentence.Class(r); got != want {
			t.Fatalf("%x: %d; want %d", r, got, want)
		}
	}
	for _, r := range []rune{-1, -2, -0xad, -0x300, '.' - 0x7fffffff - 1, math.MinInt32, math.MinInt32 + 13, 0xd800, 0xdbff, 0xdc00, 0xdfff, api.MaxRune + 1, api.MaxRune + 2, 0x1000000d, 0x200000, math.MaxInt32} {
		if got := sentence.Class(r); got != instead {
			t.Errorf("%d: %d; want %d", r, got, instead)
		}
	}
}

// TestP13_1ClassNames has the numbers of the names.
func TestP13_1ClassNames(t *testing.T) {
	names := plain(t).Db().Names()
	for class, name := range []string{"Other", "CR", "LF", "Sep", "Sp", "Lower", "Upper", "Letter", "Digit", "Stop", "Term", "Close", "On", "Extend"} {
		r := []rune(byClass[class])[0]
		if got := sentence.Class(r); got != class || names[got] != name {
			t.Errorf("%x: %d, %s; want %d, %s", r, got, names[got], class, name)
		}
	}
}

// TestP13_1ClassEnds has both ends of each range of each line of api.SentenceProps, and what stands right beside them.
func TestP13_1ClassEnds(t *testing.T) {
	// Each line has a class of its own, and they are numbered as they stand.
	var sets [][]api.Range
	for line := range strings.Lines(api.SentenceProps) {
		spelt, _, _ := strings.Cut(line, " ; ")
		l, e, _ := runes.Parse(spelt)
		if e != api.OK {
			t.Fatalf("%q: %d", line, e)
		}
		sets = append(sets, l)
	}
	ends := 0
	for i, l := range sets {
		for _, x := range l {
			ends += 2
			if lo, hi := sentence.Class(x.Lo), sentence.Class(x.Hi); lo != i+1 || hi != i+1 {
				t.Errorf("%x to %x: %d, %d; want %d", x.Lo, x.Hi, lo, hi, i+1)
			}
			for _, r := range []rune{x.Lo - 1, x.Hi + 1} {
				want := 1 + slices.IndexFunc(sets, func(l []api.Range) bool { return runes.Has(l, r) })
				if got := sentence.Class(r); got != want {
					t.Errorf("%x: %d; want %d", r, got, want)
				}
			}
		}
	}
	if ends < 150 {
		t.Errorf("%d ends", ends)
	}
}
