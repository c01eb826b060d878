package places_test

import (
	"fmt"
	"math"
	"math/rand"
	"strings"
	"sync"
	"testing"

	"kerf/api"
	"kerf/places"
)

// example is the text of the chapter's examples.
const example = "a\u00e9\U0001f600\r\nx"

// TestP17_1 has texts of any bytes.
func TestP17_1(t *testing.T) {
	for _, s := range []string{"", "a", example, "\xff\x80", "\xe2\x82", "\x00", "e\u0301\n", strings.Repeat("\U0001f600\xf0", 999)} {
		if got := places.New(s).Text(); got != s {
			t.Errorf("%q: %q", s, got)
		}
	}
}

// TestP17_2Examples are those of the chapter.
func TestP17_2Examples(t *testing.T) {
	x := places.New(example)
	for by, want := range []int{7, 6, 10, 5} {
		if got := x.Len(by); got != want {
			t.Errorf("Len by %d: %d; want %d", by, got, want)
		}
	}
	for _, c := range []struct{ by, at, want int }{
		{api.ByRune, 3, 2}, {api.ByUnit, 4, 3}, {api.ByUnit, 5, 4}, {api.ByUnit, 3, 2}, {api.ByUnit, 7, 4}, {api.ByByte, 5, 5},
		{api.ByRune, 4, 3}, {api.ByRune, 2, 2}, {api.ByLetter, 8, 4}, {api.ByLetter, 9, 4}, {api.ByLetter, 10, 5},
	} {
		if got := x.To(c.by, c.at); got != c.want {
			t.Errorf("To%v: %d", c, got)
		}
	}
	for _, c := range []struct{ by, n, want int }{
		{api.ByUnit, 3, 4}, {api.ByUnit, 2, 3}, {api.ByUnit, 4, 7}, {api.ByLetter, 4, 9}, {api.ByLetter, 3, 7}, {api.ByRune, 4, 8}, {api.ByByte, 4, 4},
		{api.ByUnit, 6, 9}, {api.ByUnit, 7, 10}, {api.ByUnit, 8, 10},
	} {
		if got := x.From(c.by, c.n); got != c.want {
			t.Errorf("From%v: %d", c, got)
		}
	}
}

// TestP17_2Rows has every row of up to three parts, at every place.
func TestP17_2Rows(t *testing.T) {
	b := letters(t)
	for long := range 4 {
		for s := range rows(long, parts...) {
			held(t, b, places.New(s), s)
		}
	}
}

// TestP17_2Any has texts of any runes and bytes.
func TestP17_2Any(t *testing.T) {
	b := letters(t)
	r := rand.New(rand.NewSource(172))
	for range 3000 {
		s := someText(r, 20)
		held(t, b, places.New(s), s)
	}
	for range 3000 {
		bytes := make([]byte, r.Intn(14))
		for i := range bytes {
			bytes[i] = "a\r\n\x80\xcc\x81\xe2\x80\xa8\xf0\x9f\x87\xa6\xc2\x85\xff"[r.Intn(16)]
		}
		held(t, b, places.New(string(bytes)), string(bytes))
	}
}

// TestP17_2None has what is no count, by hand: n below 0 is looked at first.
func TestP17_2None(t *testing.T) {
	for _, s := range []string{"", "a", example, "\xff\n"} {
		x := places.New(s)
		for _, by := range none {
			if got := x.Len(by); got != 0 {
				t.Errorf("%q: Len by %d: %d", s, by, got)
			}
			for _, n := range around(len(s)) {
				want := len(s)
				if n < 0 {
					want = 0
				}
				if got := x.From(by, n); got != want {
					t.Errorf("%q: From by %d, %d: %d; want %d", s, by, n, got, want)
				}
				if got := x.To(by, n); got != 0 {
					t.Errorf("%q: To by %d, %d: %d", s, by, n, got)
				}
			}
		}
	}
}

// TestP17_2Ends has the least and the greatest numbers, by hand.
func TestP17_2Ends(t *testing.T) {
	for _, s := range []string{"", example, strings.Repeat(example, 100)} {
		x := places.New(s)
		for _, by := range counts {
			for _, n := range []int{math.MinInt, -1, 0} {
				if x.To(by, n) != 0 || x.From(by, n) != 0 {
					t.Errorf("%d bytes, by %d, %d: To %d, From %d", len(s), by, n, x.To(by, n), x.From(by, n))
				}
			}
			for _, n := range []int{len(s), len(s) + 1, math.MaxInt} {
				if x.To(by, n) != x.Len(by) || x.From(by, n) != len(s) {
					t.Errorf("%d bytes, by %d, %d: To %d, From %d", len(s), by, n, x.To(by, n), x.From(by, n))
				}
			}
		}
	}
}

// long are texts far longer than what an index keeps one place of.
func long() map[string]string {
	r := rand.New(rand.NewSource(173))
	texts := map[string]string{
		"one letter":    "ab" + strings.Repeat("\u0301", 700) + "cd" + strings.Repeat("\u0301\u200d", 300) + "\n" + strings.Repeat("\u0301", 300),
		"long lines":    strings.Repeat(strings.Repeat("x\u00e9", 301)+"\u2028", 4),
		"no lines":      strings.Repeat("word \u4e00 ", 200),
		"odd flags":     "x" + strings.Repeat("\U0001f1e6", 401),
		"pictures":      strings.Repeat(strings.Repeat("\U0001f468\u200d", 101)+"\U0001f469\U0001f469", 2),
		"a cut off end": strings.Repeat("\U0001f600", 300) + "\xf0\x9f\x98",
		"of all":        strings.Repeat(strings.Join(parts, "")+strings.Join(more, ""), 12),
		"chance":        someText(r, 900) + someText(r, 900) + someText(r, 900),
	}
	// Ahead of each stand up to four bytes: where a place may be kept, each byte of a rune or of two line ends comes to lie.
	for _, part := range []string{"a", "\u00e9", "\u4e00", "\U0001f600", "\x80", "\xe2\x82", "\xf0\x9f\x98", "\r\n", "\n\r", "\r", "\n", "\u0085", "\u2028", "e\u0301", "\U0001f1e6\U0001f1e7", "\U0001f468\u200d\U0001f469"} {
		for ahead := range 5 {
			texts[fmt.Sprintf("%d and %q", ahead, part)] = "vwxy"[:ahead] + strings.Repeat(part, 700/len(part))
		}
	}
	return texts
}

// TestP17_2Long has long texts, at every place.
func TestP17_2Long(t *testing.T) {
	b := letters(t)
	for name, s := range long() {
		t.Run(name, func(t *testing.T) { held(t, b, places.New(s), s) })
	}
}

// TestP17_2Quick has texts that no one would wait for, if more than what stands near a kept place were looked through.
func TestP17_2Quick(t *testing.T) {
	const n = 200000
	for _, part := range []string{"a", "\u0301", "\U0001f1e6", "\n", "\U0001f600\u200d"} {
		s := "x" + strings.Repeat(part, n)
		x := places.New(s)
		for at := 1; at < len(s); at += 17 * len(part) {
			for _, by := range counts {
				if m := x.To(by, at); x.From(by, m) < at || x.To(by, x.From(by, m)) != m {
					t.Fatalf("%q: by %d at %d", part, by, at)
				}
			}
			if p := x.Point(at); x.At(p) < at {
				t.Fatalf("%q: %v at %d", part, p, at)
			}
		}
	}
}

// TestP17_3 has each count against each, and what is none.
func TestP17_3(t *testing.T) {
	if got := places.New(example).Convert(api.ByUnit, 3, api.ByRune); got != 3 {
		t.Errorf("the example: %d", got)
	}
	b := letters(t)
	r := rand.New(rand.NewSource(174))
	texts := []string{"", example, "\r\n", "\xe2\x82", long()["of all"]}
	for range 300 {
		texts = append(texts, someText(r, 12))
	}
	all := append([]int{-1, 4}, counts...)
	for _, s := range texts {
		x, y := places.New(s), plainOf(b, s)
		for _, from := range all {
			for _, to := range all {
				for _, n := range around(len(s)) {
					if got, want := x.Convert(from, n, to), y.to(to, y.from(from, n)); got != want {
						t.Fatalf("%q: Convert %d, %d, %d: %d; want %d", s, from, n, to, got, want)
					}
				}
			}
		}
	}
}

// TestP17_7Examples are those of the chapter.
func TestP17_7Examples(t *testing.T) {
	for _, c := range []struct {
		at, from, to, long int
		stay               bool
		want               int
	}{
		{5, 2, 4, 7, false, 10}, {5, 2, 4, 7, true, 10}, {3, 2, 4, 7, true, 2}, {3, 2, 4, 7, false, 9},
		{2, 2, 2, 3, true, 2}, {2, 2, 2, 3, false, 5}, {2, 2, 4, 7, false, 9}, {4, 2, 4, 7, true, 2}, {1, 2, 4, 7, false, 1},
		{5, 2, 4, 0, false, 3}, {3, 2, 4, 0, false, 2}, {5, 4, 2, 7, false, 5}, {3, 4, 2, 7, true, 3}, {3, 2, 4, -1, false, 3},
		{-3, -5, -4, 2, false, -2}, {math.MaxInt, 0, 9, 3, false, math.MaxInt - 6}, {math.MinInt, 0, 9, 3, false, math.MinInt},
		{0, math.MinInt, math.MaxInt, 3, true, math.MinInt}, {0, math.MinInt, math.MaxInt, 3, false, math.MinInt + 3},
		{0, math.MaxInt, math.MinInt, 3, false, 0}, {7, 0, 9, math.MinInt, true, 7}, {7, 0, 9, math.MaxInt, false, math.MaxInt},
	} {
		if got := places.Move(c.at, c.from, c.to, c.long, c.stay); got != c.want {
			t.Errorf("%v: %d", c, got)
		}
	}
}

// TestP17_7 has all small numbers, at every edge.
func TestP17_7(t *testing.T) {
	for from := -2; from <= 5; from++ {
		for to := -2; to <= 5; to++ {
			for long := -2; long <= 3; long++ {
				for at := -4; at <= 8; at++ {
					for _, stay := range []bool{true, false} {
						want := at
						if to >= from && long >= 0 {
							want = plainMove(at, from, to, long, stay)
						}
						if got := places.Move(at, from, to, long, stay); got != want {
							t.Errorf("%d, %d, %d, %d, %v: %d; want %d", at, from, to, long, stay, got, want)
						}
					}
				}
			}
		}
	}
}

func plainMove(at, from, to, long int, stay bool) int {
	if at < from {
		return at
	}
	if at > to {
		return at - (to - from) + long
	}
	if stay {
		return from
	}
	return from + long
}

// TestGoroutines is that several may use one index.
func TestGoroutines(t *testing.T) {
	s := long()["of all"]
	x := places.New(s)
	b := letters(t)
	y := plainOf(b, s)
	var all sync.WaitGroup
	wrong := make([]int, 8)
	for i := range wrong {
		all.Go(func() {
			for at := range len(s) + 1 {
				if x.Point(at) != y.point(at) || x.At(y.point(at)) != y.at(y.point(at)) || x.To(api.ByLetter, at) != y.to(api.ByLetter, at) || x.From(api.ByUnit, at) != y.from(api.ByUnit, at) {
					wrong[i]++
				}
			}
			wrong[i] += len(told(x)) - len(y.rows)
			wrong[i] += len(x.Change(i, i, "x").Text()) - len(s) - 1
		})
	}
	all.Wait()
	for i, n := range wrong {
		if n != 0 {
			t.Errorf("the goroutine number %d: %d wrong", i, n)
		}
	}
}
