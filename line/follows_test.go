package line_test

import (
	"math/rand"
	"slices"
	"strings"
	"testing"

	"kerf/api"
	"kerf/line"
	"kerf/props"
	"kerf/stream"
	"kerf/utf"
)

// texts goes over all rows of up to three classes, rows of some of them with marks and blanks, and texts of any runes and bytes.
func texts(seed int64) func(func(string) bool) {
	return func(yield func(string) bool) {
		for long := range 4 {
			for s := range rows(long, all()...) {
				if !yield(s) {
					return
				}
			}
		}
		for s := range rows(5, sp, cm, zw, gl, other) {
			if !yield(s) {
				return
			}
		}
		r := rand.New(rand.NewSource(seed))
		for range 20000 {
			if !yield(someText(r, 14)) {
				return
			}
		}
	}
}

// eachPlace goes over the places between two runes of s: the place, and how many runes stand ahead of it.
func eachPlace(s string) func(func(int, int) bool) {
	return func(yield func(int, int) bool) {
		for k, at := range edges(s) {
			if k > 0 && at < len(s) && !yield(at, k) {
				return
			}
		}
	}
}

// TestP14_5 is that the lines are the text, none is empty, and each has the end of a line at its end alone.
func TestP14_5(t *testing.T) {
	d := plain(t).Db()
	for s := range texts(145) {
		end := 0
		var whole strings.Builder
		for from, to := range line.Lines(s) {
			if from != end || to <= from {
				t.Fatalf("%q: from %d to %d", s, from, to)
			}
			c := d.Of(s[from:to])
			body := c[:len(c)-1]
			if n := len(body); n > 0 && body[n-1] == cr && c[n] == lf {
				body = body[:n-1]
			}
			if slices.ContainsFunc(body, func(class int) bool { return class == bk || class == cr || class == lf }) {
				t.Fatalf("%q: %q is no line", s, s[from:to])
			}
			whole.WriteString(s[from:to])
			end = to
		}
		if whole.String() != s {
			t.Fatalf("%q: %q", s, whole.String())
		}
	}
}

// zeroWidth is whether blanks at most stand at the end of these classes behind a Zw.
func zeroWidth(classes []int) bool {
	k := len(classes)
	for k > 0 && classes[k-1] == sp {
		k--
	}
	return k > 0 && classes[k-1] == zw
}

// TestP14_6 is ahead of which classes there is no chance.
func TestP14_6(t *testing.T) {
	d := plain(t).Db()
	seen := map[int]int{}
	for s := range texts(146) {
		c := d.Of(s)
		for at, k := range eachPlace(s) {
			never := slices.Contains([]int{sp, zw, bk, cr, lf}, c[k])
			if !never && !slices.Contains([]int{wj, cl, cp, ex, is, sy}, c[k]) {
				continue
			}
			seen[c[k]]++
			kind := line.Kind(s, at)
			if kind == api.LineMay && (never || !zeroWidth(c[:k])) {
				t.Fatalf("%q: a chance at %d", s, at)
			}
			// and those there are
			if kind == api.LineNot && !never && zeroWidth(c[:k]) {
				t.Fatalf("%q: no chance at %d", s, at)
			}
		}
	}
	for _, class := range []int{sp, zw, bk, cr, lf, wj, cl, cp, ex, is, sy} {
		if seen[class] < 500 {
			t.Errorf("class %d: %d places", class, seen[class])
		}
	}
}

// TestP14_7 is that what glues does.
func TestP14_7(t *testing.T) {
	d := plain(t).Db()
	seen := 0
	for s := range texts(147) {
		c := d.Of(s)
		for at, k := range eachPlace(s) {
			glue := c[k-1] == gl || c[k-1] == wj || c[k-1] == other && (c[k] == gl || c[k] == wj)
			if !glue {
				continue
			}
			seen++
			if kind := line.Kind(s, at); kind != api.LineNot {
				t.Fatalf("%q: %d at %d", s, kind, at)
			}
		}
	}
	if seen < 5000 {
		t.Errorf("%d places", seen)
	}
	for _, s := range []string{"a\u00a0", "a\u2060", "\u202f", "\ufeff"} {
		if got := line.Chances(s); !slices.Equal(got, []api.Chance{must(len(s))}) {
			t.Errorf("%q: %v", s, got)
		}
	}
}

// apart is P14.8 of two texts.
func apart(t *testing.T, s, u string) {
	t.Helper()
	want := line.Chances(s)
	for _, x := range line.Chances(u) {
		want = append(want, api.Chance{At: x.At + len(s), Must: x.Must})
	}
	if got := line.Chances(s + u); !slices.Equal(got, want) {
		t.Fatalf("%q and %q: %v; want %v", s, u, got, want)
	}
}

// TestP14_8 has every two texts of a few runes of which the first ends with a Bk or Lf.
func TestP14_8(t *testing.T) {
	for _, end := range []string{"\n", "\u2028", "\r\n"} {
		for first := range 2 {
			for second := range 3 {
				for s := range rows(first, all()...) {
					for u := range rows(second, all()...) {
						apart(t, s+end, u)
					}
				}
			}
		}
		for s := range rows(2, sp, cm, zw, op, ri, cr) {
			for u := range rows(4, cm, gl, ri, sp, nu, lf) {
				apart(t, s+end, u)
			}
		}
	}
	r := rand.New(rand.NewSource(148))
	ends := []string{"\n", "\v", "\f", "\u0085", "\u2028", "\u2029", "\r\n"}
	for range 10000 {
		apart(t, someText(r, 8)+ends[r.Intn(len(ends))], someText(r, 8))
	}
	for _, fault := range faults {
		apart(t, fault+"\n", fault)
		apart(t, fault+"\u2028", "\xa8"+fault)
	}
}

// TestP14_9 is that letters hold together, and letters and digits.
func TestP14_9(t *testing.T) {
	d := plain(t).Db()
	seen := 0
	for s := range texts(149) {
		c := d.Of(s)
		for at, k := range eachPlace(s) {
			ahead, behind := c[k-1], c[k]
			if !(ahead == other && (behind == other || behind == nu) || ahead == nu && behind == other) {
				continue
			}
			seen++
			if kind := line.Kind(s, at); kind != api.LineNot {
				t.Fatalf("%q: %d at %d", s, kind, at)
			}
		}
	}
	if seen < 5000 {
		t.Errorf("%d places", seen)
	}
	for _, s := range []string{"ab", "a7", "7a", "\u05d0\u0416", "\u00e9\u0660", "\u0660z", "\xffa", "7\xff", "\xff\xff", "a\ufffd"} {
		if got := line.Chances(s); !slices.Equal(got, []api.Chance{must(len(s))}) {
			t.Errorf("%q: %v", s, got)
		}
	}
}

// TestP14_1Pieces is that a text that comes in pieces has the same chances, and so has its Clean form (P1, P6 of the whole).
func TestP14_1Pieces(t *testing.T) {
	b := plain(t)
	r := rand.New(rand.NewSource(1412))
	for range 1500 {
		s := someText(r, 14)
		at := 0
		got := []api.Chance{}
		for piece := range stream.Segments(b.Db(), b.Rules(), inPieces(r, s)) {
			at += len(piece)
			got = append(got, api.Chance{At: at, Must: at == len(s) || endsLine(b.Db(), piece)})
		}
		if want := line.Chances(s); !slices.Equal(got, want) {
			t.Fatalf("%q: %v; want %v", s, got, want)
		}
		clean := utf.Clean(s)
		from, to := edges(s), edges(clean)
		for k := range from {
			if line.Kind(s, from[k]) != line.Kind(clean, to[k]) {
				t.Fatalf("%q: the rune number %d", s, k)
			}
		}
	}
}

// inPieces goes over s in pieces of one to three bytes.
func inPieces(r *rand.Rand, s string) func(func(string) bool) {
	var l []string
	for rest := s; rest != ""; {
		n := 1 + r.Intn(min(3, len(rest)))
		l, rest = append(l, rest[:n]), rest[n:]
	}
	return slices.Values(l)
}

// endsLine is whether s ends with the end of a line.
func endsLine(d *props.Db, s string) bool {
	c := d.Of(s)
	return slices.Contains([]int{bk, cr, lf}, c[len(c)-1])
}
