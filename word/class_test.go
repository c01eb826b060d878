package word

import (
	"math"
	"testing"

	"kerf/api"
	"kerf/props"
)

// TestP12_1Class holds the classes of all runes, and of numbers that are none, against those of api.WordProps.
func TestP12_1Class(t *testing.T) {
	d, e, line := props.New(api.WordProps)
	if e != api.OK {
		t.Fatalf("New: %d, %d", e, line)
	}
	for class, name := range []string{"Other", "Cr", "Lf", "Newline", "Extend", "Zwj", "Format", "Region", "Katakana", "Hebrew", "Letter", "Quote", "Double", "MidNumLet", "MidLetter", "MidNum", "Digit", "Low", "Space", "Pict"} {
		if got := d.Names()[class]; got != name {
			t.Errorf("class %d: %s; want %s", class, got, name)
		}
	}
	for r := rune(0); r <= api.MaxRune; r++ {
		if got, want := classOf(r), d.Get(r); got != want {
			t.Fatalf("%x: %d; want %d", r, got, want)
		}
	}
	for _, r := range []rune{-1, math.MinInt32, api.MaxRune + 1, math.MaxInt32} {
		if got := classOf(r); got != classOther {
			t.Errorf("%x: %d", r, got)
		}
	}
}
