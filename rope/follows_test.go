package rope_test

import (
	"math/rand"
	"strings"
	"sync"
	"testing"

	"kerf/api"
	"kerf/rope"
	"kerf/utf"
)

// TestP20_7 makes ropes of ropes, and asks the old ones at the end.
func TestP20_7(t *testing.T) {
	source := rand.New(rand.NewSource(207))
	for range 8 {
		texts := []string{someText(source, 600)}
		ropes := []*rope.Rope{made(t, texts[0])}
		for range 60 {
			i := source.Intn(len(ropes))
			r, s := changed(t, ropes[i], texts[i], source)
			if len(s) < 3000 {
				ropes, texts = append(ropes, r), append(texts, s)
			}
			i, k := source.Intn(len(ropes)), source.Intn(len(ropes))
			if s := texts[i] + texts[k]; len(s) < 3000 {
				ropes, texts = append(ropes, joined(t, ropes[i], ropes[k])), append(texts, s)
			}
		}
		for i, r := range ropes {
			heldSome(t, r, texts[i], source)
		}
	}
}

// TestP20_7Goroutines has several goroutines use one rope.
func TestP20_7Goroutines(t *testing.T) {
	s := strings.Repeat("a\U0001f600\n\xe2", 300)
	r := made(t, s)
	var all sync.WaitGroup
	texts := make([]string, 8)
	for i := range texts {
		all.Add(1)
		go func() {
			defer all.Done()
			source := rand.New(rand.NewSource(int64(i)))
			x := r
			for range 200 {
				at := source.Intn(x.Len() + 1)
				x, _ = x.Insert(at, "\x82\xac")
				x, _ = x.Delete(at, at+2)
				x, _ = rope.Join(x, nil)
				r.RuneOf(at)
				r.AtUnit(at)
			}
			texts[i] = x.String()
		}()
	}
	all.Wait()
	for i, got := range texts {
		if got != s {
			t.Error(i)
		}
	}
	held(t, r, s)
}

// TestP20_8 is that Join is associative, the empty rope neutral, and Cut leads back.
func TestP20_8(t *testing.T) {
	source := rand.New(rand.NewSource(208))
	for i := range 1500 {
		most := 6
		if i%10 == 0 {
			most = 600
		}
		a, b, c := someText(source, most), someText(source, most), someText(source, most)
		x, y, z := made(t, a), made(t, b), made(t, c)
		left, right := joined(t, joined(t, x, y), z), joined(t, x, joined(t, y, z))
		heldCounts(t, left, plainOf(a+b+c))
		heldCounts(t, right, plainOf(a+b+c))
		if !rope.Equal(left, right) {
			t.Fatalf("%.200q %.200q %.200q", a, b, c)
		}
		for _, none := range []*rope.Rope{nil, made(t, "")} {
			heldCounts(t, joined(t, none, x), plainOf(a))
			heldCounts(t, joined(t, x, none), plainOf(a))
		}
		at := source.Intn(left.Len() + 1)
		p, q, e := left.Cut(at)
		if e != api.OK {
			t.Fatal(e)
		}
		heldCounts(t, joined(t, p, q), plainOf(a+b+c))
		heldInserted(t, left, at, b)
	}
}

// heldInserted lays s in, and takes it out again.
func heldInserted(t *testing.T, r *rope.Rope, at int, s string) {
	t.Helper()
	x, e := r.Insert(at, s)
	if e != api.OK {
		t.Fatal(e)
	}
	y, e := x.Delete(at, at+len(s))
	if e != api.OK {
		t.Fatal(e)
	}
	heldCounts(t, y, plainOf(r.String()))
	if !rope.Equal(r, y) {
		t.Fatalf("%.200q with %.200q at %d, and without it", r.String(), s, at)
	}
}

// TestP20_8Three has the three bytes of a rune, and the four of one, joined in all ways.
func TestP20_8Three(t *testing.T) {
	for _, s := range []string{"\u20ac", "\U0001f600", "a\u20acb", "\u00e9\U0001f600\u00e9"} {
		for i := range len(s) + 1 {
			for k := i; k <= len(s); k++ {
				a, b, c := made(t, s[:i]), made(t, s[i:k]), made(t, s[k:])
				held(t, joined(t, joined(t, a, b), c), s)
				held(t, joined(t, a, joined(t, b, c)), s)
			}
		}
	}
}

// TestP20_9 has all short texts side by side: how many runes the seam makes fewer.
func TestP20_9(t *testing.T) {
	var texts []string
	for long := range 4 {
		for s := range rows(long, "a", "\xc3", "\xe2", "\x82", "\xac", "\xf0", "\x9f", "\x80") {
			texts = append(texts, s)
		}
	}
	fewer := map[int]int{}
	for i := 0; i < len(texts); i++ {
		for k := i % 3; k < len(texts); k += 3 {
			fewer[overSeam(t, made(t, texts[i]), made(t, texts[k]))]++
		}
	}
	for n := range 4 {
		if fewer[n] == 0 {
			t.Error("no seam makes that many fewer:", n)
		}
	}
}

// overSeam is how many runes the whole of two has fewer than both.
func overSeam(t *testing.T, a, b *rope.Rope) int {
	t.Helper()
	x := joined(t, a, b)
	n := a.Runes() + b.Runes() - x.Runes()
	if n < 0 || n > 3 || (n == 0) != utf.Is(x.String(), a.Len()) {
		t.Fatalf("%q and %q: %d fewer", a.String(), b.String(), n)
	}
	if want := len([]rune(a.String() + b.String())); x.Runes() != want {
		t.Fatalf("%q and %q: %d runes", a.String(), b.String(), x.Runes())
	}
	return n
}

// TestP20_9Long has the seam between long texts, and each cut of them.
func TestP20_9Long(t *testing.T) {
	source := rand.New(rand.NewSource(209))
	for range 300 {
		overSeam(t, made(t, someText(source, 500)), made(t, someText(source, 500)))
	}
	s := strings.Repeat("\U0001f600\u20ac\u00e9\x82", 120)
	r := made(t, s)
	for at := range len(s) + 1 {
		a, b, _ := r.Cut(at)
		overSeam(t, a, b)
	}
}

// TestP20_10 is there and back, of runes, units and lines.
func TestP20_10(t *testing.T) {
	source := rand.New(rand.NewSource(2010))
	for i := range 300 {
		s := someText(source, 20+i)
		r := bytewise(t, s, i%2 == 0)
		for at := range len(s) + 1 {
			if !utf.Is(s, at) {
				continue
			}
			if got, ok := r.AtRune(r.RuneOf(at)); got != at || !ok {
				t.Fatalf("%.300q: rune at %d: %d %v", s, at, got, ok)
			}
			if got, ok := r.AtUnit(r.UnitOf(at)); got != at || !ok {
				t.Fatalf("%.300q: unit at %d: %d %v", s, at, got, ok)
			}
		}
		for n := range r.Breaks() + 1 {
			at, ok := r.AtLine(n)
			if got := r.LineOf(at); got != n || !ok {
				t.Fatalf("%.300q: line %d: %d %v", s, n, got, ok)
			}
		}
	}
}
