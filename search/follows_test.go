package search_test

import (
	"math/rand"
	"slices"
	"testing"

	"kerf/api"
	"kerf/fold"
	"kerf/grapheme"
	"kerf/search"
	"kerf/word"
)

// someFound are a text, one that is looked for in it, and how.
func someFound(r *rand.Rand) (s, t string, o api.Find) {
	s = someText(r, 16)
	return s, someNeedle(r, s), hows[r.Intn(len(hows))]
}

func TestP22_6(t *testing.T) {
	r := rand.New(rand.NewSource(226))
	for range 3000 {
		s, u, o := someFound(r)
		every, all := search.Every(s, u, o), search.All(s, u, o)
		count := 0
		for from := range len(s) + 1 {
			for to := from; to <= len(s); to++ {
				if search.Is(s, u, o, from, to) {
					count++
				}
			}
		}
		for i, m := range every {
			if !search.Is(s, u, o, m.From, m.To) || i > 0 && every[i-1].From >= m.From {
				t.Fatalf("%q in %q, %v: %v", u, s, o, every)
			}
			if slices.Contains(all, m) {
				continue
			}
			if !slices.ContainsFunc(all, func(x api.Match) bool { return x.From < m.From && x.To > m.From }) {
				t.Fatalf("%q in %q, %v: %v overlaps none of %v", u, s, o, m, all)
			}
		}
		if count != len(every) {
			t.Fatalf("%q in %q, %v: %d matches, told %v", u, s, o, count, every)
		}
		for i, m := range all {
			if !slices.Contains(every, m) || i > 0 && all[i-1].To > m.From {
				t.Fatalf("%q in %q, %v: %v", u, s, o, all)
			}
		}
	}
}

func TestP22_7(t *testing.T) {
	r := rand.New(rand.NewSource(227))
	for range 6000 {
		s, u, o := someFound(r)
		o.Fold = true
		every := search.Every(s, u, o)
		for _, other := range []string{fold.Fold(u), fold.Great(u), fold.Small(u), fold.Title(u), fold.Turned(u)} {
			if !fold.Equal(u, other) {
				continue
			}
			if got := search.Every(s, other, o); !slices.Equal(got, every) {
				t.Fatalf("%q in %q, %v: %v, %q: %v", u, s, o, every, other, got)
			}
		}
		folded := search.Every(s, u, api.Find{Fold: true})
		for _, m := range search.Every(s, u, api.Find{}) {
			if !slices.Contains(folded, m) {
				t.Fatalf("%q in %q: %v is not among %v", u, s, m, folded)
			}
		}
	}
}

func TestP22_8(t *testing.T) {
	r := rand.New(rand.NewSource(228))
	for range 6000 {
		s, u, o := someFound(r)
		covered := 0
		for from, to := range search.Each(s, u, o) {
			covered += to - from
		}
		if got := search.Replace(s, u, "", o); len(got) != len(s)-covered {
			t.Fatalf("%q out of %q, %v: %q", u, s, o, got)
		}
		o.Fold = false
		if got := search.Replace(s, u, u, o); got != s {
			t.Fatalf("%q by itself in %q, %v: %q", u, s, o, got)
		}
	}
}

// isWhole is whether a match begins and ends at a bound.
func isWhole(bounds []int, m api.Match) bool {
	return slices.Contains(bounds, m.From) && slices.Contains(bounds, m.To)
}

func TestP22_10(t *testing.T) {
	r := rand.New(rand.NewSource(2210))
	for range 6000 {
		s, u, o := someFound(r)
		for _, m := range search.Every(s, u, o) {
			if o.Words && !isWhole(word.Bounds(s), m) || o.Letters && !isWhole(grapheme.Bounds(s), m) {
				t.Fatalf("%q in %q, %v: %v", u, s, o, m)
			}
		}
	}
}

// TestP10 is that each word of a text is found in it as a whole word.
func TestP10(t *testing.T) {
	r := rand.New(rand.NewSource(10))
	words := 0
	for range 6000 {
		s := someText(r, 16)
		for from, w := range word.Words(s) {
			m := api.Match{From: from, To: from + len(w)}
			for _, o := range []api.Find{{Words: true}, {Words: true, Fold: true}} {
				if !search.Is(s, w, o, m.From, m.To) || !slices.Contains(search.Every(s, w, o), m) || !slices.Contains(search.All(s, w, o), m) {
					t.Fatalf("%q at %d of %q, %v", w, from, s, o)
				}
				if got, ok := search.Next(s, w, o, from); !ok || got != m {
					t.Fatalf("%q at %d of %q, %v: %v", w, from, s, o, got)
				}
				if got, ok := search.Prev(s, w, o, m.To); !ok || got != m {
					t.Fatalf("%q at %d of %q, %v: %v", w, from, s, o, got)
				}
			}
			words++
		}
	}
	if words < 3000 {
		t.Error(words)
	}
}
