package utf_test

import (
	"math"
	"slices"
	"strings"
	"testing"

	"kerf/utf"
)

// noRunes are numbers that are no runes, but those from d800 to dfff.
var noRunes = []rune{-1, -2, math.MinInt32, 0x110000, 0x110001, 0x1fffff, math.MaxInt32, -0xfffd}

func checkEnds(t *testing.T, s string) {
	t.Helper()
	l := marksOf(s)
	r, n := utf.Decode(s)
	if len(l) == 0 {
		if r != 0 || n != 0 {
			t.Errorf("Decode(%q): %x, %d", s, r, n)
		}
		if r, n := utf.Last(s); r != 0 || n != 0 {
			t.Errorf("Last(%q): %x, %d", s, r, n)
		}
		return
	}
	if r != l[0].R || n != l[0].Width {
		t.Errorf("Decode(%q): %x, %d; want %x, %d", s, r, n, l[0].R, l[0].Width)
	}
	z := l[len(l)-1]
	if r, n := utf.Last(s); r != z.R || n != z.Width {
		t.Errorf("Last(%q): %x, %d; want %x, %d", s, r, n, z.R, z.Width)
	}
}

func TestP1_1(t *testing.T) {
	for _, s := range texts() {
		checkEnds(t, s)
	}
	for _, s := range sharpTexts(4) {
		checkEnds(t, s)
	}
	for r := rune(0); r <= 0x10ffff; r++ {
		if q := sequence(r); q != "" {
			if a, n := utf.Decode(q + "\x80"); a != r || n != len(q) {
				t.Fatalf("Decode of %x: %x, %d", r, a, n)
			}
			if a, n := utf.Last("\xf0" + q); a != r || n != len(q) {
				t.Fatalf("Last of %x: %x, %d", r, a, n)
			}
		}
	}
}

func TestP1_2(t *testing.T) {
	for r := rune(0); r <= 0x10ffff; r++ {
		q := sequence(r)
		want := q
		if want == "" {
			want = "\xef\xbf\xbd"
		}
		if utf.Width(r) != len(q) || utf.Encode(r) != want {
			t.Fatalf("%x: Width %d, Encode %q", r, utf.Width(r), utf.Encode(r))
		}
	}
	for _, r := range noRunes {
		if utf.Width(r) != 0 || utf.Encode(r) != "\xef\xbf\xbd" {
			t.Errorf("%x: Width %d, Encode %q", r, utf.Width(r), utf.Encode(r))
		}
	}
}

func TestP1_2Text(t *testing.T) {
	if utf.Text(nil) != "" || utf.Text([]rune{}) != "" {
		t.Error("Text of nothing")
	}
	l := []rune{0, 0x7f, 0x80, 0x7ff, 0x800, 0xd7ff, 0xd800, 0xdbff, 0xdc00, 0xdfff, 0xe000, 0xfffd, 0xffff, 0x10000, 0x10ffff, 'a'}
	l = append(l, noRunes...)
	was := slices.Clone(l)
	var want strings.Builder
	for i, r := range l {
		if one := utf.Text(l[i : i+1]); one != utf.Encode(r) {
			t.Errorf("Text of %x: %q", r, one)
		}
		want.WriteString(utf.Encode(r))
	}
	if got := utf.Text(l); got != want.String() {
		t.Errorf("Text: %q, want %q", got, want.String())
	}
	if !slices.Equal(l, was) {
		t.Error("Text changed its list")
	}
}

func TestP1_3(t *testing.T) {
	for _, s := range texts() {
		l := marksOf(s)
		each := utf.Each(s)
		for range 2 { // it may be gone over again
			i := 0
			for at, r := range each {
				if i >= len(l) || at != l[i].At || r != l[i].R {
					t.Fatalf("Each(%q), number %d: %d, %x", s, i, at, r)
				}
				i++
			}
			if i != len(l) {
				t.Fatalf("Each(%q): %d runes, want %d", s, i, len(l))
			}
		}
		if got := utf.Runes(s); !slices.Equal(got, runesOf(s)) {
			t.Fatalf("Runes(%q): %x", s, got)
		}
	}
}

func TestP1_3Left(t *testing.T) {
	s := "a\xe2\x82\u20ac\U0001f600z"
	l := marksOf(s)
	each := utf.Each(s)
	for stop := range len(l) {
		n := 0
		for at, r := range each {
			if at != l[n].At || r != l[n].R {
				t.Fatalf("left at %d: %d, %x", stop, at, r)
			}
			if n == stop {
				break
			}
			n++
		}
		if n != stop {
			t.Fatalf("left at %d, not %d", n, stop)
		}
	}
}

func TestP1_3Nested(t *testing.T) {
	s := "\u00e9\x80x"
	each := utf.Each(s)
	var got, want []int
	for a, q := range each {
		for b, r := range each {
			got = append(got, a, int(q), b, int(r))
		}
	}
	for _, a := range marksOf(s) {
		for _, b := range marksOf(s) {
			want = append(want, a.At, int(a.R), b.At, int(b.R))
		}
	}
	if !slices.Equal(got, want) {
		t.Errorf("nested: %d, want %d", got, want)
	}
	if utf.Each("") == nil {
		t.Error("Each of nothing is nil")
	}
}

func TestP1_4(t *testing.T) {
	for _, s := range texts() {
		l := marksOf(s)
		units := len(l)
		for _, m := range l {
			if m.R > 0xffff {
				units++
			}
		}
		faults := faultsOf(s)
		if got := utf.Valid(s); got != (len(faults) == 0) {
			t.Fatalf("Valid(%q): %v", s, got)
		}
		if got := utf.Count(s); got != len(l) {
			t.Fatalf("Count(%q): %d, want %d", s, got, len(l))
		}
		if got := utf.Units(s); got != units {
			t.Fatalf("Units(%q): %d, want %d", s, got, units)
		}
		if got := utf.Faults(s); !slices.Equal(got, faults) {
			t.Fatalf("Faults(%q): %d, want %d", s, got, faults)
		}
		if got := utf.Clean(s); got != cleanOf(s) {
			t.Fatalf("Clean(%q): %q, want %q", s, got, cleanOf(s))
		}
	}
}

func TestP1_4Units(t *testing.T) {
	for _, x := range []struct {
		s string
		n int
	}{{"", 0}, {"\uffff", 1}, {"\U00010000", 2}, {"\U0010ffff", 2}, {"\xf0\x9f\x98", 3}, {"\xed\xa0\xbd\xed\xb8\x80", 6}, {"a\U0001f600b", 4}} {
		if got := utf.Units(x.s); got != x.n {
			t.Errorf("Units(%q): %d, want %d", x.s, got, x.n)
		}
	}
}

func TestP1_9(t *testing.T) {
	for _, s := range texts() {
		clean := utf.Clean(s)
		if utf.Text(utf.Runes(s)) != clean {
			t.Fatalf("Text(Runes(%q)): %q, Clean %q", s, utf.Text(utf.Runes(s)), clean)
		}
		if utf.Valid(s) && clean != s {
			t.Fatalf("%q is Valid, Clean of it is %q", s, clean)
		}
		if !utf.Valid(clean) || utf.Clean(clean) != clean {
			t.Fatalf("Clean(%q) is not clean", s)
		}
	}
	var l, want []rune
	for r := rune(-3); r <= 0x110003; r++ {
		l = append(l, r)
		if isRune(r) {
			want = append(want, r)
		} else {
			want = append(want, 0xfffd)
		}
	}
	for _, r := range noRunes {
		l, want = append(l, r), append(want, 0xfffd)
	}
	if !slices.Equal(utf.Runes(utf.Text(l)), want) {
		t.Error("Runes(Text(l)) are not l")
	}
}

func TestP1_11(t *testing.T) {
	for _, s := range texts() {
		var on, back []rune
		var places, others []int
		for at := 0; at < len(s); {
			r, n := utf.Decode(s[at:])
			if n < 1 {
				t.Fatalf("Decode(%q) has %d bytes", s[at:], n)
			}
			on, places = append(on, r), append(places, at)
			at += n
		}
		for end := len(s); end > 0; {
			r, n := utf.Last(s[:end])
			if n < 1 {
				t.Fatalf("Last(%q) has %d bytes", s[:end], n)
			}
			end -= n
			back, others = append(back, r), append(others, end)
		}
		slices.Reverse(back)
		slices.Reverse(others)
		if !slices.Equal(on, back) || !slices.Equal(places, others) {
			t.Fatalf("%q: on %x, back %x", s, on, back)
		}
	}
}

// Rule 3 of DOC.md: what is answered is new each time, with its spare room.
func TestAnswersAreNew(t *testing.T) {
	s := "a\x80\u20ac\xff"
	one, two := utf.Runes(s), utf.Runes(s)
	full := one[:cap(one)]
	for i := range full {
		full[i] = 'x'
	}
	if !slices.Equal(two, runesOf(s)) || !slices.Equal(utf.Runes(s), runesOf(s)) {
		t.Error("Runes shares its answers")
	}
	f, g := utf.Faults(s), utf.Faults(s)
	all := f[:cap(f)]
	for i := range all {
		all[i] = 99
	}
	if !slices.Equal(g, faultsOf(s)) || !slices.Equal(utf.Faults(s), faultsOf(s)) {
		t.Error("Faults shares its answers")
	}
}

func TestExamples(t *testing.T) {
	for _, x := range []struct {
		s string
		r rune
		n int
	}{{"\xe2\x82\xac", 0x20ac, 3}, {"\xe2\x82", 0xfffd, 1}, {"\xc0\x80", 0xfffd, 1}, {"\xed\xa0\x80", 0xfffd, 1}} {
		if r, n := utf.Decode(x.s); r != x.r || n != x.n {
			t.Errorf("Decode(%q): %x, %d", x.s, r, n)
		}
	}
	if r, n := utf.Last("a\x80"); r != 0xfffd || n != 1 {
		t.Errorf("Last: %x, %d", r, n)
	}
	if q := utf.Encode(0xd800); q != "\xef\xbf\xbd" {
		t.Errorf("Encode: %q", q)
	}
	s := "a\xe2\x82z"
	if l := utf.Runes(s); !slices.Equal(l, []rune{0x61, 0xfffd, 0xfffd, 0x7a}) {
		t.Errorf("Runes: %x", l)
	}
	if l := utf.Faults(s); !slices.Equal(l, []int{1, 2}) {
		t.Errorf("Faults: %d", l)
	}
	if c := utf.Clean(s); c != "a\xef\xbf\xbd\xef\xbf\xbdz" {
		t.Errorf("Clean: %q", c)
	}
	if n := utf.Units(utf.Encode(0x1f600)); n != 2 {
		t.Errorf("Units: %d", n)
	}
	// The first of DOC.md's ten.
	if l := utf.Runes("\x61\xe2\x82\x0a"); !slices.Equal(l, []rune{'a', 0xfffd, 0xfffd, '\n'}) {
		t.Errorf("Runes: %x", l)
	}
}
