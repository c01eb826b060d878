package stream_test

import (
	"math/rand"
	"slices"
	"testing"

	"kerf/api"
	"kerf/breaker"
	"kerf/stream"
)

// all is what is told of pieces in all.
func all(x *stream.Stream, pieces []string) []int {
	var l []int
	for _, p := range pieces {
		l = append(l, x.Write([]byte(p))...)
	}
	return append(l, x.End()...)
}

// TestP10_6Anywhere has short texts cut in all ways there are.
func TestP10_6Anywhere(t *testing.T) {
	d := db(t, fewProps)
	for _, text := range []string{
		"A ~ B", "A / B* C\nrest ~", "^ C* A ~ B\n. ~ C $", "/ .* A $\nA / B B\nrest ~", "A A ~\n~ B B\n^ . / C C C $\nrest /", "",
	} {
		rs := read(t, d, text)
		b, e, _ := breaker.New(d, rs)
		if e != api.OK {
			t.Fatal(e)
		}
		x := made(t, d, rs)
		for _, s := range []string{"", "a", "\xff", "ab\xe4\xb8\x80", "a\u00e1\u0301b", "\U0001f600bb\xe2\x82", "\xffa\U0001f600\x80", "\xe2\x82a\u4e00\xf0\x9f", "\xf0\x9f\x98\u00e1bbb"} {
			want := b.Bounds(s)
			for where := range 1 << len(s) {
				if got := all(x, cut(s, where)); !slices.Equal(got, want) {
					t.Fatalf("%q, %q: %v; want %v", text, cut(s, where), got, want)
				}
			}
		}
	}
}

// TestP10_6Some has longer texts, and rules of all kinds.
func TestP10_6Some(t *testing.T) {
	r := rand.New(rand.NewSource(106))
	d := db(t, fewProps)
	for range 1000 {
		rs := someRules(r, 7)
		b, e, _ := breaker.New(d, rs)
		if e != api.OK {
			t.Fatal(e)
		}
		x := made(t, d, rs)
		for range 3 {
			s := someText(r, 40)
			want := b.Bounds(s)
			for _, pieces := range [][]string{{s}, by(s, 1), by(s, 2), by(s, 3), slices.Concat([]string{"", ""}, by(s, 5), []string{"", ""}), someCuts(r, s)} {
				if got := all(x, pieces); !slices.Equal(got, want) {
					t.Fatalf("%v, %q: %v; want %v", rs, pieces, got, want)
				}
			}
		}
	}
}

// TestP10_7InTime has texts with others behind them: what was told stays, and between that and the first open place nothing is told any more.
func TestP10_7InTime(t *testing.T) {
	r := rand.New(rand.NewSource(107))
	d := db(t, fewProps)
	told, open := 0, 0
	for range 800 {
		rs := someRules(r, 6)
		x, s := made(t, d, rs), ""
		var so []int
		for _, p := range someCuts(r, someText(r, 8)) {
			s += p
			so = append(so, x.Write([]byte(p))...)
			edges := plainEdges(s[:len(s)-x.Held()])
			looked := len(s) - x.Held() // what lies from there on is not looked through
			if x.Open() > 0 {
				looked = edges[len(edges)-x.Open()]
				open++
			}
			for _, more := range []string{"", "a", "b", "\xff", "x", "\xb8\x80", "\x82", "\u0301", someText(r, 6), someText(r, 6)} {
				bounds := plainBounds(d, rs, s+more)
				want := slices.DeleteFunc(bounds, func(at int) bool { return at >= looked })
				if !slices.Equal(so, want) {
					t.Fatalf("%v: %q: told %v; with %q behind it %v", rs, s, so, more, want)
				}
			}
		}
		told += len(so)
	}
	if told < 800 || open < 100 {
		t.Errorf("%d told, %d times places were open", told, open)
	}
}

// upTo is a pattern that matches nothing longer than so many classes.
func upTo(r *rand.Rand, long int) api.Pattern {
	if long == 0 {
		return empty
	}
	var classes []int
	for c := range fewClasses {
		if r.Intn(3) > 0 {
			classes = append(classes, c)
		}
	}
	switch p := set(classes...); r.Intn(6) {
	case 0:
		return empty
	case 1:
		return or(upTo(r, long), upTo(r, long-1))
	case 2:
		return api.Pattern{Op: api.PatMay, Kids: []api.Pattern{upTo(r, long)}}
	default:
		if long == 1 {
			return p
		}
		return then(p, upTo(r, long-1))
	}
}

// TestP10_8NotTooLate counts open places.
func TestP10_8NotTooLate(t *testing.T) {
	r := rand.New(rand.NewSource(108))
	d := db(t, fewProps)
	for k := 1; k <= 5; k++ {
		most := 0
		for range 400 {
			rs := someRules(r, 6)
			for i := range rs.Rules {
				rs.Rules[i].End, rs.Rules[i].Right = false, upTo(r, k)
			}
			x := made(t, d, rs)
			for _, p := range someCuts(r, someText(r, 14)) {
				x.Write([]byte(p))
				most = max(most, x.Open())
			}
		}
		// A place behind which k classes are known is settled: it is one less, and that is reached.
		if most != k-1 {
			t.Errorf("%d classes: %d open", k, most)
		}
	}
}

// TestP10_8One has rules whose Right matches one class: each place is told with the rune behind it.
func TestP10_8One(t *testing.T) {
	d := db(t, fewProps)
	rs := read(t, d, "A / A\nA B* ~ [A C]\n^ . ~ B\n. . . / Other\nrest ~")
	x := made(t, d, rs)
	s := ""
	for _, p := range []string{"a", "a", "b", "b", "\xff", "x", "\u00e1", "\u4e00", "\U0001f600", "\u0301", "x", "x"} {
		s += p
		x.Write([]byte(p))
		if x.Open() != 0 {
			t.Errorf("%q: %d open", s, x.Open())
		}
	}
	x.End()
	held(t, x, d, rs, by(s, 1)...)
}
