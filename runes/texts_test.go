package runes_test

import (
	"slices"
	"testing"
	"unicode/utf8"

	"kerf/api"
	"kerf/runes"
)

// pairs are from and to of all that is gone over, one behind the other.
func pairs(s string, l []api.Range) []int {
	var out []int
	for from, to := range runes.Runs(s, l) {
		out = append(out, from, to)
	}
	return out
}

func TestP2_4Of(t *testing.T) {
	for _, s := range texts() {
		same(t, "Of", runes.Of(s), ofText(s))
	}
	same(t, "Of", runes.Of("b\xffa\u00e9\xff\xfe"), set('a', 'b', 0xe9, 0xe9, 0xfffd, 0xfffd))
	same(t, "Of, of surrogates' bytes", runes.Of("\xed\xa0\x80"), set(0xfffd, 0xfffd))
	same(t, "Of, of the ends", runes.Of("\U0010ffff\x00"), set(0, 0, 0x10ffff, 0x10ffff))
	var all []rune
	for r := rune(0); r <= 0x10ffff; r++ {
		if r < 0xd800 || r > 0xdfff {
			all = append(all, r)
		}
	}
	same(t, "Of, of all runes", runes.Of(string(all)), set(0, 0xd7ff, 0xe000, 0x10ffff))
}

func TestP2_4Keep(t *testing.T) {
	for _, s := range texts() {
		for _, l := range sieves() {
			if got, want := runes.Keep(s, l), keptOf(s, l); got != want {
				t.Errorf("Keep(%q, %x): %q; want %q", s, l, got, want)
			}
		}
	}
	if got := runes.Keep("\xff\xfea\xef\xbf", set(0xfffd, 0xfffd)); got != "\xff\xfe\xef\xbf" {
		t.Errorf("of invalid bytes %q is kept", got)
	}
	if got := runes.Keep("\xffa\xfe\ufffd\x80", set(0xff, 0xff, 0x80, 0x80, 0xfe, 0xfe, 'a', 'a')); got != "a" {
		t.Errorf("without U+FFFD %q is kept", got)
	}
}

func TestP2_4Trim(t *testing.T) {
	for _, s := range texts() {
		for _, l := range sieves() {
			from, to := runes.Trim(s, l)
			if a, b := trimmedOf(s, l); from != a || to != b {
				t.Errorf("Trim(%q, %x): %d, %d; want %d, %d", s, l, from, to, a, b)
			}
		}
	}
	blank := set(' ', ' ')
	for s, want := range map[string][2]int{
		"": {0, 0}, " ": {1, 1}, "   ": {3, 3}, "x": {0, 1}, " x": {1, 2}, "x ": {0, 1}, "  x y ": {2, 5}, " \u20ac ": {1, 4}, " \xff ": {1, 2}, "\xff \xff": {0, 3},
	} {
		if a, b := runes.Trim(s, blank); a != want[0] || b != want[1] {
			t.Errorf("Trim(%q): %d, %d; want %v", s, a, b, want)
		}
	}
}

func TestP2_5(t *testing.T) {
	for _, s := range texts() {
		for _, l := range sieves() {
			if got, want := pairs(s, l), runsOf(s, l); !slices.Equal(got, want) {
				t.Errorf("Runs(%q, %x): %d; want %d", s, l, got, want)
			}
		}
	}
}

func TestP2_5GoneOver(t *testing.T) {
	l := set('b', 'b', 'a', 'a')
	runs := runes.Runs("ab.\xffa.bb", l)
	want := [][2]int{{0, 2}, {4, 5}, {6, 8}}
	l[0], l[1] = api.Range{Lo: '.', Hi: '.'}, api.Range{Lo: '.', Hi: '.'} // nothing of this is seen
	for stop := range 4 {
		var got [][2]int
		for from, to := range runs {
			if len(got) == stop {
				break
			}
			got = append(got, [2]int{from, to})
		}
		if !slices.Equal(got, want[:stop]) {
			t.Errorf("left after %d: %d", stop, got)
		}
	}
	n := 0
	for a, b := range runs {
		for c, d := range runs {
			if [2]int{a, b} != want[n/2] || [2]int{c, d} != want[n%2] {
				t.Errorf("nested: %d %d, %d %d", a, b, c, d)
			}
			if n++; c == 4 {
				break
			}
		}
	}
	if n != 6 {
		t.Errorf("nested: %d pairs", n)
	}
	none := runes.Runs("", nil)
	if none == nil {
		t.Fatal("Runs of nothing is nil")
	}
	for from, to := range none {
		t.Errorf("Runs of nothing: %d %d", from, to)
	}
}

func TestP2_10Keep(t *testing.T) {
	for _, s := range texts() {
		for _, l := range sieves() {
			kept := runes.Keep(s, l)
			if len(kept)+len(runes.Keep(s, runes.Not(l))) != len(s) {
				t.Errorf("%q by %x: what is kept and what is not are not as long as it", s, l)
			}
			if utf8.ValidString(s) {
				same(t, "Of(Keep)", runes.Of(kept), runes.And(runes.Of(s), l))
			}
		}
	}
}

func TestP2_10Runs(t *testing.T) {
	for _, s := range texts() {
		for _, l := range sieves() {
			in, out := pairs(s, l), pairs(s, runes.Not(l))
			at := 0
			for len(in)+len(out) > 0 {
				next := &in
				if len(in) == 0 || len(out) > 0 && out[0] < in[0] {
					next = &out
				}
				if (*next)[0] != at || (*next)[1] <= at {
					t.Fatalf("Runs(%q, %x) and those of Not: at %d: %d, %d", s, l, at, in, out)
				}
				at = (*next)[1]
				*next = (*next)[2:]
				if len(*next) > 0 && (*next)[0] == at {
					t.Fatalf("Runs(%q, %x) and those of Not take no turns at %d", s, l, at)
				}
			}
			if at != len(s) {
				t.Errorf("Runs(%q, %x) and those of Not end at %d", s, l, at)
			}
		}
	}
}

func TestP2_4Examples(t *testing.T) {
	if s := runes.Keep("a\xff€b", set(97, 97, 0xfffd, 0xfffd)); s != "a\xff" {
		t.Errorf("Keep: %q", s)
	}
	if a, b := runes.Trim("  x ", set(32, 32)); a != 2 || b != 3 {
		t.Errorf("Trim: %d, %d", a, b)
	}
	if l := pairs("aab\xffa", set(97, 97)); !slices.Equal(l, []int{0, 2, 4, 5}) {
		t.Errorf("Runs: %d", l)
	}
}
