package runes_test

import (
	"math"
	"math/rand"
	"slices"
	"testing"

	"kerf/api"
	"kerf/runes"
)

// same: whether both are the same list; nil and an empty one are.
func same(t *testing.T, what string, got, want []api.Range) {
	t.Helper()
	if !slices.Equal(got, want) {
		t.Errorf("%s: %x; want %x", what, got, want)
	}
}

func TestP2_1Norm(t *testing.T) {
	for _, l := range lists() {
		same(t, "Norm", runes.Norm(l), normalOf(l))
	}
	for _, l := range great()[:12] {
		got := runes.Norm(l)
		for r := rune(-2); r <= 0x110001; r++ { // rune for rune, not by their ends alone
			if means(got, r) != means(l, r) {
				t.Fatalf("Norm(%x): %x: %x", l, got, r)
			}
		}
	}
}

func TestP2_1Is(t *testing.T) {
	for _, l := range lists() {
		want := slices.Equal(l, normalOf(l))
		if got := runes.Is(l); got != want {
			t.Errorf("Is(%x): %v", l, got)
		}
		if !runes.Is(runes.Norm(l)) {
			t.Errorf("Norm(%x) is not in normal form", l)
		}
	}
	for _, l := range [][]api.Range{nil, {}, set(0, 0x10ffff), set(0, 0, 2, 2), set(5, 5), set(0x10ffff, 0x10ffff), set(0xd800, 0xdfff), set(1, 3, 5, 0x10ffff)} {
		if !runes.Is(l) {
			t.Errorf("Is(%x): false", l)
		}
	}
	for _, l := range [][]api.Range{
		set(5, 4), set(0, -1), set(-1, 0), set(-3, -2), set(0, 0x110000), set(0x110000, 0x110000), set(0, math.MaxInt32), set(math.MinInt32, 0),
		set(0, 0, 1, 1), set(1, 3, 3, 5), set(1, 3, 4, 5), set(5, 5, 1, 1), set(1, 1, 1, 1), set(1, 1, 5, 4), set(1, 1, 5, 5, 3, 3),
		set(0, math.MaxInt32, math.MinInt32, 5), set(0, math.MaxInt32, 5, 6), set(0x10ffff, 0x10ffff, 0x110001, 0x110001),
	} {
		if runes.Is(l) {
			t.Errorf("Is(%x): true", l)
		}
	}
}

func TestP2_1Has(t *testing.T) {
	for _, l := range lists() {
		for _, r := range near(l) {
			if got := runes.Has(l, r); got != means(l, r) {
				t.Errorf("Has(%x, %x): %v", l, r, got)
			}
		}
	}
}

func TestP2_2(t *testing.T) {
	all := lists()
	rnd := rand.New(rand.NewSource(6))
	for _, a := range all {
		same(t, "Not", runes.Not(a), normal(turns(a), func(r rune) bool { return !means(a, r) }))
		others := [][]api.Range{nil, a, set(0, 0x10ffff), runes.Not(a)}
		for range 40 {
			others = append(others, all[rnd.Intn(len(all))])
		}
		for _, b := range others {
			ends := turns(a, b)
			same(t, "Or", runes.Or(a, b), normal(ends, func(r rune) bool { return means(a, r) || means(b, r) }))
			same(t, "And", runes.And(a, b), normal(ends, func(r rune) bool { return means(a, r) && means(b, r) }))
			same(t, "Minus", runes.Minus(a, b), normal(ends, func(r rune) bool { return means(a, r) && !means(b, r) }))
		}
	}
}

func TestP2_2Whole(t *testing.T) {
	whole := set(0, 0x10ffff)
	same(t, "Not of none", runes.Not(nil), whole)
	same(t, "Not of an empty list", runes.Not([]api.Range{}), whole)
	same(t, "Not of the whole", runes.Not(whole), nil)
	same(t, "Not of more than the whole", runes.Not(set(math.MinInt32, math.MaxInt32)), nil)
	same(t, "Not of what is no rune", runes.Not(set(-9, -1, 0x110000, 0x110009, 7, 6)), whole)
	same(t, "Minus", runes.Minus(whole, set(0xd800, 0xdfff)), set(0, 0xd7ff, 0xe000, 0x10ffff))
	same(t, "Minus of the ends", runes.Minus(whole, set(0, 0, 0x10ffff, 0x10ffff)), set(1, 0x10fffe))
	same(t, "And, in many pieces", runes.And(set(0, 10, 12, 20, 22, 30), set(5, 25)), set(5, 10, 12, 20, 22, 25))
	same(t, "Or, which touch", runes.Or(set(0, 4, 11, 20), set(5, 10)), set(0, 20))
}

func TestP2_3Numbers(t *testing.T) {
	for _, l := range small() {
		want := runesIn(normalOf(l))
		checkNumbers(t, l, want)
	}
	for _, l := range great()[:14] {
		checkNumbers(t, l, runesIn(l))
	}
}

func checkNumbers(t *testing.T, l []api.Range, want []rune) {
	t.Helper()
	if n := runes.Count(l); n != len(want) {
		t.Errorf("Count(%x): %d; want %d", l, n, len(want))
	}
	at := []int{math.MinInt, -2, -1, 0, 1, 2, len(want) / 2, len(want) - 2, len(want) - 1, len(want), len(want) + 1, 0x10ffff, 0x110000, math.MaxInt32, 1 << 32, math.MaxInt}
	for i := 3; i < len(want) && i < 80; i++ {
		at = append(at, i)
	}
	for _, i := range at {
		r, ok := runes.At(l, i)
		if i < 0 || i >= len(want) {
			if r != 0 || ok {
				t.Errorf("At(%x, %d): %x, %v", l, i, r, ok)
			}
		} else if r != want[i] || !ok {
			t.Errorf("At(%x, %d): %x, %v; want %x", l, i, r, ok, want[i])
		}
	}
	for _, r := range near(l) {
		i, ok := runes.Index(l, r)
		k, there := slices.BinarySearch(want, r)
		if !there {
			k = 0
		}
		if i != k || ok != there {
			t.Errorf("Index(%x, %x): %d, %v; want %d, %v", l, r, i, ok, k, there)
		}
	}
}

func TestP2_3Each(t *testing.T) {
	for _, l := range small() {
		if got := slices.Collect(runes.Each(l)); !slices.Equal(got, runesIn(normalOf(l))) {
			t.Errorf("Each(%x): %x", l, got)
		}
	}
	next := rune(0)
	for r := range runes.Each(set(0x8000, math.MaxInt32, math.MinInt32, 0x7fff)) {
		if r != next {
			t.Fatalf("Each of the whole: %x; want %x", r, next)
		}
		next++
	}
	if next != 0x110000 {
		t.Errorf("Each of the whole ends ahead of %x", next)
	}
}

func TestP2_3EachGoneOver(t *testing.T) {
	each := runes.Each(set(12, 13, 5, 7))
	for stop := range 6 {
		var l []rune
		for r := range each {
			if len(l) == stop {
				break
			}
			l = append(l, r)
		}
		if want := []rune{5, 6, 7, 12, 13}[:min(stop, 5)]; !slices.Equal(l, want) {
			t.Errorf("left after %d: %x", stop, l)
		}
	}
	var pairs [][2]rune
	for a := range each {
		for b := range each {
			pairs = append(pairs, [2]rune{a, b})
			if b == 12 {
				break
			}
		}
	}
	if len(pairs) != 20 || pairs[4] != [2]rune{6, 5} || pairs[19] != [2]rune{13, 12} {
		t.Errorf("nested: %x", pairs)
	}
	none := runes.Each(nil)
	if none == nil {
		t.Fatal("Each of none is nil")
	}
	for r := range none {
		t.Errorf("Each of none: %x", r)
	}
}

func TestP2_3EachOfChangedList(t *testing.T) {
	for _, l := range [][]api.Range{set(5, 7, 12, 13), set(12, 13, 5, 7), set(5, 6, 7, 7, 12, 13)} {
		each := runes.Each(l)
		for i := range l {
			l[i] = api.Range{Lo: 1, Hi: 2}
		}
		if got := slices.Collect(each); !slices.Equal(got, []rune{5, 6, 7, 12, 13}) {
			t.Errorf("changed ahead of going over: %x", got)
		}
		var got []rune
		for r := range each {
			got = append(got, r)
			l[0].Lo, l[0].Hi = r, r+100
		}
		if !slices.Equal(got, []rune{5, 6, 7, 12, 13}) {
			t.Errorf("changed while gone over: %x", got)
		}
	}
}

// TestNothingShared holds each call to rule 3: what is handed in stays, spare room too, and what is answered is new.
func TestNothingShared(t *testing.T) {
	a := append(make([]api.Range, 0, 8), set(97, 102, 99, 104, 5, 3)...)
	b := append(make([]api.Range, 0, 8), set(100, 120)...)
	normal := append(make([]api.Range, 0, 8), set(3, 4, 8, 9)...)
	answers := func() [][]api.Range {
		l := [][]api.Range{runes.Norm(a), runes.Norm(normal), runes.Or(a, b), runes.Or(normal, nil), runes.Or(nil, normal), runes.And(a, b),
			runes.And(normal, set(0, 0x10ffff)), runes.Minus(a, b), runes.Minus(normal, nil), runes.Not(a), runes.Not(nil), runes.Of("ab\xff")}
		p, _, _ := runes.Parse("U+0003-U+0004 U+0008")
		return append(l, p)
	}
	first := answers()
	var want [][]api.Range
	for _, l := range first {
		want = append(want, slices.Clone(l))
		l = l[:cap(l)]
		for i := range l {
			l[i] = api.Range{Lo: 1000, Hi: 2000}
		}
	}
	for i, l := range answers() {
		same(t, "answered again", l, want[i])
	}
	runes.Keep("abc", a)
	runes.Trim("abc", a)
	runes.Print(a)
	for range runes.Runs("abc", a) {
	}
	same(t, "first list", a[:8], append(set(97, 102, 99, 104, 5, 3), make([]api.Range, 5)...))
	same(t, "second list", b[:8], append(set(100, 120), make([]api.Range, 7)...))
	same(t, "list in normal form", normal[:8], append(set(3, 4, 8, 9), make([]api.Range, 6)...))
}

func TestP2_8(t *testing.T) {
	all := lists()
	rnd := rand.New(rand.NewSource(8))
	whole := set(0, 0x10ffff)
	or, and, not, minus := runes.Or, runes.And, runes.Not, runes.Minus
	for range 3000 {
		a, b, c := all[rnd.Intn(len(all))], all[rnd.Intn(len(all))], all[rnd.Intn(len(all))]
		n := runes.Norm(a)
		for _, law := range []struct {
			name        string
			left, right []api.Range
		}{
			{"Not of Not", not(not(a)), n},
			{"Minus is And with Not", minus(a, b), and(a, not(b))},
			{"Or turned round", or(a, b), or(b, a)},
			{"And turned round", and(a, b), and(b, a)},
			{"Or of three", or(or(a, b), c), or(a, or(b, c))},
			{"And of three", and(and(a, b), c), and(a, and(b, c))},
			{"And over Or", and(a, or(b, c)), or(and(a, b), and(a, c))},
			{"Or over And", or(a, and(b, c)), and(or(a, b), or(a, c))},
			{"Or swallows", or(a, and(a, b)), n},
			{"And swallows", and(a, or(a, b)), n},
			{"Or with itself", or(a, a), n},
			{"And with itself", and(a, a), n},
			{"Or with Not", or(a, not(a)), whole},
			{"And with Not", and(a, not(a)), nil},
			{"Not of Or", not(or(a, b)), and(not(a), not(b))},
			{"Not of And", not(and(a, b)), or(not(a), not(b))},
			{"Or with none", or(a, nil), n},
			{"Or with the whole", or(a, whole), whole},
			{"And with none", and(a, nil), nil},
			{"And with the whole", and(a, whole), n},
			{"Minus of itself", minus(a, a), nil},
			{"Minus and And", or(minus(a, b), and(a, b)), n},
			{"Norm of Norm", runes.Norm(n), n},
		} {
			if !slices.Equal(law.left, law.right) || !runes.Is(law.left) {
				t.Fatalf("%s: %x, %x, %x: %x and %x", law.name, a, b, c, law.left, law.right)
			}
		}
	}
}

func TestP2_9(t *testing.T) {
	all := lists()
	rnd := rand.New(rand.NewSource(9))
	for range 2000 {
		a, b := all[rnd.Intn(len(all))], all[rnd.Intn(len(all))]
		if runes.Count(runes.Or(a, b))+runes.Count(runes.And(a, b)) != runes.Count(a)+runes.Count(b) {
			t.Errorf("counts of %x and %x", a, b)
		}
		if runes.Count(a)+runes.Count(runes.Not(a)) != 0x110000 {
			t.Errorf("counts of %x and what is not in it", a)
		}
	}
	for _, l := range small() {
		n := 0
		for r := range runes.Each(l) {
			q, ok := runes.At(l, n)
			i, there := runes.Index(l, r)
			if q != r || !ok || i != n || !there {
				t.Errorf("%x: number %d: %x, %x, %d", l, n, r, q, i)
			}
			n++
		}
		if n != runes.Count(l) {
			t.Errorf("Each(%x): %d runes", l, n)
		}
	}
}

func TestP2_1Examples(t *testing.T) {
	same(t, "Norm", runes.Norm(set(97, 102, 99, 104, 105, 105, 5, 3)), set(97, 105))
	same(t, "Not", runes.Not(nil), set(0, 0x10ffff))
	hex := set(48, 57, 97, 102)
	if n := runes.Count(hex); n != 16 {
		t.Errorf("Count: %d", n)
	}
	if r, ok := runes.At(hex, 10); r != 'a' || !ok {
		t.Errorf("At 10: %c, %v", r, ok)
	}
}
