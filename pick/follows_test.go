package pick_test

import (
	"cmp"
	"math/rand"
	"slices"
	"strings"
	"testing"
	"time"

	"kerf/api"
	"kerf/edit"
	"kerf/grapheme"
	"kerf/pick"
	"kerf/places"
)

// span is from where to where a pick stands.
func span(x api.Pick) (from, to int) { return min(x.Anchor, x.Head), max(x.Anchor, x.Head) }

// formed holds what P24.10 says of picks that are told, of the text in which they stand.
func formed(t *testing.T, s string, p api.Picks, what string) {
	t.Helper()
	if p.Main < 0 || p.Main >= max(1, len(p.L)) {
		t.Fatalf("%s of %q: the main one of %v", what, s, p)
	}
	for i, x := range p.L {
		for _, at := range []int{x.Anchor, x.Head} {
			if at != 0 && at != len(s) && !grapheme.Is(s, at) {
				t.Fatalf("%s of %q: %v within a letter", what, s, x)
			}
		}
		for _, y := range p.L[:i] {
			if meet(plain{Pick: x}, plain{Pick: y}) {
				t.Fatalf("%s of %q: %v and %v meet", what, s, y, x)
			}
			if a, _ := span(y); a > min(x.Anchor, x.Head) {
				t.Fatalf("%s of %q: %v ahead of %v", what, s, y, x)
			}
		}
	}
	same(t, pick.Norm(s, p), p, "Norm of "+what, s)
}

// TestP24_10 is that all that is told is in one form.
func TestP24_10(t *testing.T) {
	r := rand.New(rand.NewSource(2410))
	for i := range 10000 {
		s := someText(r, 12)
		p, m, o := somePicks(r, s), someMotion(r), someCells(r)
		formed(t, s, pick.Norm(s, p), "Norm")
		formed(t, s, pick.Move(s, p, m, i%2 == 0, o), "Move")
		formed(t, s, pick.Grow(s, p, some(r, every)), "Grow")
		formed(t, s, pick.Lines(s, p), "Lines")
		formed(t, s, pick.Rest(s, p), "Rest")
		formed(t, s, pick.Found(s, someText(r, 1), api.Find{Fold: true}), "Found")
		formed(t, s, pick.Block(s, api.Spot{Row: r.Intn(4), Col: r.Intn(4)}, api.Spot{Row: r.Intn(4), Col: r.Intn(4)}, o), "Block")
		c := someChange(r, len(s))
		u, _ := edit.Apply(s, c)
		q, _ := pick.Through(s, c, p)
		formed(t, u, q, "Through")
		u, _, q = pick.Type(s, p, []string{someText(r, 1), someText(r, 1)})
		formed(t, u, q, "Type")
		u, q = pick.Erase(s, p, m, o)
		formed(t, u, q, "Erase")
	}
}

// TestP24_11 is that the picks' own texts change nothing, and that what is typed is taken back.
func TestP24_11(t *testing.T) {
	r := rand.New(rand.NewSource(2411))
	for range 20000 {
		s := someText(r, 12)
		p := somePicks(r, s)
		if made, _, _ := pick.Type(s, p, pick.Texts(s, p)); made != s {
			t.Fatalf("%q, %v: %q", s, p, made)
		}
		made, c, _ := pick.Type(s, p, []string{someText(r, 2), someText(r, 1)})
		back, e := edit.Invert(s, c)
		if was, f := edit.Apply(made, back); was != s || e != api.OK || f != api.OK {
			t.Fatalf("%q, %v: %q, taken back %q, %d, %d", s, p, made, was, e, f)
		}
	}
}

// TestP24_12 is that picks and the rest, in the order of their places, are the text.
func TestP24_12(t *testing.T) {
	r := rand.New(rand.NewSource(2412))
	for range 20000 {
		s := someText(r, 12)
		p := somePicks(r, s)
		all := slices.Concat(pick.Norm(s, p).L, pick.Rest(s, p).L)
		slices.SortStableFunc(all, func(x, y api.Pick) int {
			a, b := span(x)
			c, d := span(y)
			return cmp.Or(cmp.Compare(a, c), cmp.Compare(b, d))
		})
		var b strings.Builder
		for _, x := range all {
			from, to := span(x)
			b.WriteString(s[from:to])
		}
		n := len(pick.Texts(s, p)) + len(pick.Texts(s, pick.Rest(s, p)))
		if b.String() != s || n != len(all) {
			t.Fatalf("%q, %v: %v", s, p, all)
		}
	}
}

// TestP24_13 is that Grow loses nothing and has an end, and that no line's end is within what Lines tells.
func TestP24_13(t *testing.T) {
	r := rand.New(rand.NewSource(2413))
	whole := 0
	for range 20000 {
		s := someText(r, 12)
		p, kind := somePicks(r, s), some(r, every)
		grown := pick.Grow(s, p, kind)
		for _, x := range pick.Norm(s, p).L {
			from, to := span(x)
			if !slices.ContainsFunc(grown.L, func(y api.Pick) bool {
				a, b := span(y)
				return a <= from && to <= b
			}) {
				t.Fatalf("%q: %v by %d: %v has not %v", s, p, kind, grown, x)
			}
		}
		if slices.Contains(grows, kind) && !slices.ContainsFunc(boundsBy(s, kind), func(at int) bool { return s != "" && !grapheme.Is(s, at) }) {
			whole++
			same(t, pick.Grow(s, grown, kind), grown, "Grow of Grow", s, p, kind)
		}
		lines := pick.Lines(s, p)
		for _, text := range pick.Texts(s, lines) {
			if places.New(text).Lines() != 1 {
				t.Fatalf("%q: %v: %q", s, p, text)
			}
		}
	}
	if whole < 3000 {
		t.Error(whole)
	}
}

// TestP24_14 is that what only moves is empty, and that a change of nothing leaves all but the columns.
func TestP24_14(t *testing.T) {
	r := rand.New(rand.NewSource(2414))
	for range 20000 {
		s := someText(r, 12)
		p := somePicks(r, s)
		for _, x := range pick.Move(s, p, someMotion(r), false, someCells(r)).L {
			if x.Anchor != x.Head {
				t.Fatalf("%q: %v: %v", s, p, x)
			}
		}
		c := changeOf(len(s))
		for at := range len(s) + 1 {
			if r.Intn(3) == 0 {
				c.Edits = append(c.Edits, api.Edit{From: at, To: at})
			}
		}
		want := pick.Norm(s, p)
		for i := range want.L {
			want.L[i].Goal = -1
		}
		got, _ := pick.Through(s, c, p)
		same(t, got, want, "Through", s, c, p)
	}
}

// quick is that something takes a bounded time, which it is far below if it goes through what is given but once.
func quick(t *testing.T, what string, do func()) {
	t.Helper()
	begin := time.Now()
	do()
	if took := time.Since(begin); took > 5*time.Second {
		t.Errorf("%s: %v", what, took)
	}
}

// TestLong is as many picks as a long text has letters, flags too, and a change of all of them.
func TestLong(t *testing.T) {
	const n = 60000
	flags := strings.Repeat("\U0001f1e6", 2*n)
	var p api.Picks
	for i := range n {
		p.L = append(p.L, api.Pick{Anchor: 8 * (n - i), Head: 8*(n-i) - 3, Goal: 1})
	}
	quick(t, "Norm, Rest, Lines", func() {
		if q := pick.Norm(flags, p); len(q.L) != n || q.Main != n-1 || q.L[0] != (api.Pick{Anchor: 8, Goal: 1}) {
			t.Error(len(q.L), q.Main)
		}
		if q := pick.Rest(flags, p); len(q.L) != 0 {
			t.Error(len(q.L))
		}
		if q := pick.Lines(flags, p); len(q.L) != n {
			t.Error(len(q.L))
		}
	})
	quick(t, "Grow", func() {
		for kind, want := range []int{api.ToLetter: n, api.ToWord: n, api.ToSentence: 1, api.ToLine: 1} {
			if q := pick.Grow(flags, p, kind); len(q.L) != want {
				t.Error(kind, len(q.L))
			}
		}
	})
	s := strings.Repeat("ab.\n", n)
	dots := pick.Found(s, ".", api.Find{})
	quick(t, "Type, Through, Erase", func() {
		made, c, q := pick.Type(s, dots, []string{"", "xy"})
		if len(made) != len(s) || len(c.Edits) != n || len(q.L) != n {
			t.Error(len(made), len(c.Edits), len(q.L))
		}
		if through, e := pick.Through(s, c, dots); e != api.OK || len(through.L) != n {
			t.Error(len(through.L), e)
		}
		if left, q := pick.Erase(made, q, api.Motion{Kind: api.ToLetter, N: -1}, o8); len(left) != len(s)-n || len(q.L) != n {
			t.Error(len(left), len(q.L))
		}
	})
	quick(t, "Lines, Rest, Grow, Block, Move", func() {
		whole := of(0, two(len(s), 0))
		if q := pick.Lines(s, whole); len(q.L) != n || q.Main != 0 {
			t.Error(len(q.L), q.Main)
		}
		if q := pick.Rest(s, dots); len(q.L) != n+1 {
			t.Error(len(q.L))
		}
		if q := pick.Grow(s, dots, api.ToLine); len(q.L) != n || q.L[1] != two(4, 8) {
			t.Error(len(q.L))
		}
		if q := pick.Block(s, api.Spot{Row: -1, Col: 2}, api.Spot{Row: n, Col: 1}, o8); len(q.L) != n+1 || q.Main != n {
			t.Error(len(q.L), q.Main)
		}
		if q := pick.Move(s, dots, api.Motion{Kind: api.ToRow, N: 1}, false, o8); len(q.L) != n {
			t.Error(len(q.L))
		}
	})
}
