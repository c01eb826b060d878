package fold_test

import (
	"math/rand"
	"slices"
	"strings"
	"testing"

	"kerf/fold"
	"kerf/utf"
)

// texts are the empty one, each of the parts, and some of any bytes.
func texts(seed int64, many int) []string {
	r := rand.New(rand.NewSource(seed))
	l := append([]string{""}, parts...)
	for range many {
		l = append(l, someText(r, 12), someBytes(r, 8))
	}
	return l
}

// TestP19_7 has what is folded folded again, and small, great and titled texts folded.
func TestP19_7(t *testing.T) {
	apart := 0
	for _, s := range texts(197, 4000) {
		want := fold.Fold(s)
		if got := fold.Fold(want); got != want {
			t.Fatalf("%+q: %+q, and again %+q", s, want, got)
		}
		if strings.ContainsAny(s, "\u0130\u0131") {
			apart++
			continue
		}
		for _, other := range []string{fold.Small(s), fold.Great(s), fold.Title(s)} {
			if got := fold.Fold(other); got != want {
				t.Fatalf("%+q, %+q: %+q; want %+q", s, other, got, want)
			}
		}
	}
	if apart < 20 {
		t.Errorf("%d have them", apart)
	}
}

// TestP19_7Letters has every rune that is cased, and the two that stand apart.
func TestP19_7Letters(t *testing.T) {
	x := bookOf(t)
	for r := rune(0); r < 0x10500; r++ {
		if !x.cased(r) {
			continue
		}
		s := utf.Encode(r)
		want := fold.Fold(s)
		if fold.Fold(want) != want {
			t.Errorf("%x: not folded once", r)
		}
		for _, other := range []string{fold.Small(s), fold.Great(s), fold.Title(s)} {
			if fold.Fold(other) != want && r != 0x130 && r != 0x131 {
				t.Errorf("%x as %+q: %+q; want %+q", r, other, fold.Fold(other), want)
			}
		}
	}
	if fold.Fold(fold.Great("\u0131")) != "i" || fold.Fold("\u0131") != "\u0131" || fold.Fold(fold.Small("\u0130")) != "i\u0307" {
		t.Error("130, 131")
	}
}

// spelt is a text that is Equal to s, spelt by other runes here and there.
func spelt(r *rand.Rand, s string) string {
	switch r.Intn(6) {
	case 0:
		return fold.Fold(s)
	case 1:
		return strings.NewReplacer("ss", "\u00df", "SS", "\u1e9e", "ffi", "\ufb03", "s", "\u017f").Replace(fold.Fold(s))
	case 2:
		return strings.NewReplacer("\u00df", "sS", "\ufb03", "\ufb00i", "\ufb01", "fI", "\u03c2", "\u03a3", "\u01c4", "\u01c5").Replace(s)
	case 3:
		return fold.Turned(fold.Fold(s))
	case 4:
		return strings.ReplaceAll(fold.Turned(s), "\u03a3", "\u03c2")
	}
	return s
}

// TestP19_8 is that Equal is an equivalence, and stays with the same texts ahead and behind.
func TestP19_8(t *testing.T) {
	r := rand.New(rand.NewSource(198))
	for range 2500 {
		a := someText(r, 6)
		b := spelt(r, a)
		c := spelt(r, b)
		if !fold.Equal(a, a) || !fold.Equal(a, b) || !fold.Equal(b, a) || !fold.Equal(b, c) || !fold.Equal(a, c) {
			t.Fatalf("%+q, %+q and %+q", a, b, c)
		}
		ahead, behind := someText(r, 3), someText(r, 3)
		if together(ahead, a, behind) && together(ahead, c, behind) && !fold.Equal(ahead+a+behind, ahead+c+behind) {
			t.Fatalf("%+q and %+q between %+q and %+q", a, c, ahead, behind)
		}
		other := someText(r, 6)
		if fold.Equal(a, other) != fold.Equal(other, a) || fold.Equal(a, other) != fold.Equal(c, other) {
			t.Fatalf("%+q, %+q and %+q", a, c, other)
		}
	}
}

// together is whether the runes of texts, one behind the other, are those of each of them.
func together(texts ...string) bool {
	var l []rune
	for _, s := range texts {
		l = append(l, utf.Runes(s)...)
	}
	return slices.Equal(utf.Runes(strings.Join(texts, "")), l)
}

// TestP19_9 has texts turned twice.
func TestP19_9(t *testing.T) {
	x := bookOf(t)
	l := texts(199, 3000)
	for a, b := range x.smalls {
		l = append(l, utf.Encode(a), utf.Encode(b), utf.Encode(a+1), utf.Encode(b+1))
	}
	for _, s := range l {
		once := fold.Turned(s)
		if got := fold.Turned(once); got != s {
			t.Fatalf("%+q: %+q, then %+q", s, once, got)
		}
	}
}

// TestP19_10 has texts put together whose runes stay apart.
func TestP19_10(t *testing.T) {
	l := texts(1910, 600)
	r := rand.New(rand.NewSource(1910))
	apart, joined := 0, 0
	for range 8000 {
		a, b := l[r.Intn(len(l))], l[r.Intn(len(l))]
		if !together(a, b) {
			joined++
			continue
		}
		apart++
		if got, want := fold.Fold(a+b), fold.Fold(a)+fold.Fold(b); got != want {
			t.Fatalf("Fold of %+q and %+q: %+q; want %+q", a, b, got, want)
		}
		if got, want := fold.Great(a+b), fold.Great(a)+fold.Great(b); got != want {
			t.Fatalf("Great of %+q and %+q: %+q; want %+q", a, b, got, want)
		}
	}
	if apart < 4000 || joined < 20 {
		t.Errorf("%d apart, %d joined", apart, joined)
	}
}
