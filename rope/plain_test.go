package rope_test

import (
	"math"
	"math/bits"
	"math/rand"
	"strings"
	"testing"

	"kerf/api"
	"kerf/rope"
)

// What stands here is the chapter spelt out as plainly as can be, on strings: the tests hold the package against it.

// mark is a rune of a text.
type mark struct {
	at, width int
	r         rune
}

// marks are the runes that range over a string finds.
func marks(s string) []mark {
	var l []mark
	for at, r := range s {
		if n := len(l); n > 0 {
			l[n-1].width = at - l[n-1].at
		}
		l = append(l, mark{at: at, r: r})
	}
	if n := len(l); n > 0 {
		l[n-1].width = len(s) - l[n-1].at
	}
	return l
}

// plain is a text, and what it is made of.
type plain struct {
	text string
	l    []mark
}

func plainOf(s string) plain { return plain{s, marks(s)} }

func unitsOf(r rune) int {
	if r > 0xffff {
		return 2
	}
	return 1
}

func (x plain) runeOf(at int) int {
	n := 0
	for _, m := range x.l {
		if m.at+m.width <= at {
			n++
		}
	}
	return n
}

func (x plain) unitOf(at int) int {
	n := 0
	for _, m := range x.l {
		if m.at+m.width <= at {
			n += unitsOf(m.r)
		}
	}
	return n
}

func (x plain) lineOf(at int) int {
	n := 0
	for i := range len(x.text) {
		if x.text[i] == 10 && i < at {
			n++
		}
	}
	return n
}

func (x plain) atRune(n int) (int, bool) {
	if n == len(x.l) {
		return len(x.text), true
	}
	if n < 0 || n > len(x.l) {
		return 0, false
	}
	return x.l[n].at, true
}

func (x plain) atUnit(n int) (int, bool) {
	first := 0
	for _, m := range x.l {
		if first == n {
			return m.at, true
		}
		first += unitsOf(m.r)
	}
	if first == n {
		return len(x.text), true
	}
	return 0, false
}

func (x plain) atLine(n int) (int, bool) {
	if n == 0 {
		return 0, true
	}
	for i := range len(x.text) {
		if x.text[i] == 10 {
			n--
			if n == 0 {
				return i + 1, true
			}
		}
	}
	return 0, false
}

// rune is the rune that begins at at: its number in the list, too.
func (x plain) rune(at int) (rune, int, int) {
	for i, m := range x.l {
		if m.at == at {
			return m.r, m.width, i
		}
	}
	return 0, 0, len(x.l)
}

func (x plain) byte(at int) (byte, bool) {
	if at < 0 || at >= len(x.text) {
		return 0, false
	}
	return x.text[at], true
}

// far are numbers that are far from any place.
var far = []int{math.MinInt, math.MinInt + 1, math.MinInt32, -1000, 1 << 21, math.MaxInt32, math.MaxInt - 1, math.MaxInt}

// made is New, of a text that is not too long.
func made(t *testing.T, s string) *rope.Rope {
	t.Helper()
	r, e := rope.New(s)
	if e != api.OK || r == nil {
		t.Fatal(len(s), e)
	}
	return r
}

// joined is Join, of texts that are not too long.
func joined(t *testing.T, a, b *rope.Rope) *rope.Rope {
	t.Helper()
	r, e := rope.Join(a, b)
	if e != api.OK || r == nil {
		t.Fatal(a.Len(), b.Len(), e)
	}
	return r
}

// held holds all that a rope tells against its text.
func held(t *testing.T, r *rope.Rope, s string) {
	t.Helper()
	x := plainOf(s)
	heldCounts(t, r, x)
	for at := -2; at <= len(s)+2; at++ {
		heldAt(t, r, x, at)
	}
	for n := -2; n <= r.Units()+2; n++ {
		heldNumber(t, r, x, n)
	}
	for _, n := range far {
		heldAt(t, r, x, n)
		heldNumber(t, r, x, n)
	}
}

// heldSome is held, at some places alone: for long texts.
func heldSome(t *testing.T, r *rope.Rope, s string, source *rand.Rand) {
	t.Helper()
	x := plainOf(s)
	heldCounts(t, r, x)
	for range 6 {
		heldAt(t, r, x, source.Intn(len(s)+1))
		heldNumber(t, r, x, source.Intn(len(s)+1))
	}
}

func heldCounts(t *testing.T, r *rope.Rope, x plain) {
	t.Helper()
	s := x.text
	if got := r.String(); got != s {
		t.Fatalf("the text is %.300q, not %.300q", got, s)
	}
	if r.Len() != len(s) || r.Runes() != len(x.l) || r.Units() != x.unitOf(len(s)) || r.Breaks() != strings.Count(s, "\n") {
		t.Fatalf("%.300q: %d bytes, %d runes, %d units, %d breaks", s, r.Len(), r.Runes(), r.Units(), r.Breaks())
	}
	heldDepth(t, r)
	var got strings.Builder
	for p := range r.Pieces() {
		if p == "" || len(p) > api.MaxPiece {
			t.Fatalf("%.300q: a piece of %d bytes", s, len(p))
		}
		got.WriteString(p)
	}
	if got.String() != s {
		t.Fatalf("%.300q: the pieces are %.300q", s, got.String())
	}
	other := made(t, s[min(1, len(s)):]+"xy"[min(1, len(s)):])
	if !rope.Equal(r, made(t, s)) || !rope.Equal(made(t, s), r) || rope.Equal(r, other) != (other.String() == s) {
		t.Fatalf("%.300q: is it equal", s)
	}
}

func heldDepth(t *testing.T, r *rope.Rope) {
	t.Helper()
	if d := r.Depth(); d < 0 || d > 2*bits.Len(uint(r.Len()))+2 {
		t.Fatalf("%d bytes, and a depth of %d", r.Len(), d)
	}
}

func heldAt(t *testing.T, r *rope.Rope, x plain, at int) {
	t.Helper()
	want, ok := x.byte(at)
	if b, is := r.Byte(at); b != want || is != ok {
		t.Fatalf("%.300q: byte %d is %x %v", x.text, at, b, is)
	}
	c, width, i := x.rune(at)
	if got, n := r.Rune(at); got != c || n != width {
		t.Fatalf("%.300q: rune at %d is %x %d", x.text, at, got, n)
	}
	if n := r.RuneOf(at); n != x.runeOf(at) {
		t.Fatalf("%.300q: %d runes ahead of %d", x.text, n, at)
	}
	if n := r.UnitOf(at); n != x.unitOf(at) {
		t.Fatalf("%.300q: %d units ahead of %d", x.text, n, at)
	}
	if n := r.LineOf(at); n != x.lineOf(at) {
		t.Fatalf("%.300q: %d breaks ahead of %d", x.text, n, at)
	}
	rest := x.l[i:]
	for place, got := range r.Each(at) {
		if len(rest) == 0 || rest[0].at != place || rest[0].r != got {
			t.Fatalf("%.300q: from %d on, %d %x", x.text, at, place, got)
		}
		rest = rest[1:]
	}
	if len(rest) > 0 {
		t.Fatalf("%.300q: from %d on, %d runes are missing", x.text, at, len(rest))
	}
}

func heldNumber(t *testing.T, r *rope.Rope, x plain, n int) {
	t.Helper()
	for _, c := range []struct {
		name      string
		got, want func(int) (int, bool)
	}{
		{"AtRune", r.AtRune, x.atRune},
		{"AtUnit", r.AtUnit, x.atUnit},
		{"AtLine", r.AtLine, x.atLine},
	} {
		at, ok := c.got(n)
		want, is := c.want(n)
		if at != want || ok != is {
			t.Fatalf("%.300q: %s(%d) is %d %v, not %d %v", x.text, c.name, n, at, ok, want, is)
		}
	}
}

// parts are what texts are made of: runes of all lengths, and what belongs to none.
var parts = []string{
	"a", "\n", "\r\n", "\x00", "\u00e9", "\u20ac", "\ufffd", "\U0001f600", "\U0010ffff", "\uffff", "\U00010000",
	"\xe2", "\x82", "\xac", "\xe2\x82", "\x82\xac", "\xf0", "\x9f", "\x98", "\x80", "\xf0\x9f", "\x98\x80", "\xf0\x9f\x98",
	"\xc3", "\xa9", "\xff", "\xc0\x80", "\xed\xa0\x80", "\xf4\x90\x80\x80", "\xf5", "\xbf", "\xef\xbf", "\xbd",
}

func someText(r *rand.Rand, most int) string {
	few := parts
	switch r.Intn(5) {
	case 0:
		few = []string{"a", "b", "\n", "\n\n", "cd"}
	case 1:
		few = []string{"\xe2", "\x82", "\xac", "\xf0", "\x9f", "\x98", "\x80"}
	case 2:
		few = []string{"\U0001f600", "\u20ac", "\u00e9", "z"}
	}
	var s strings.Builder
	for range r.Intn(most + 1) {
		s.WriteString(few[r.Intn(len(few))])
	}
	return s.String()
}

// rows goes over all texts of so many parts.
func rows(long int, parts ...string) func(func(string) bool) {
	return func(yield func(string) bool) {
		row := make([]int, long)
		for {
			var s strings.Builder
			for _, i := range row {
				s.WriteString(parts[i])
			}
			if !yield(s.String()) {
				return
			}
			i := 0
			for i < long && row[i] == len(parts)-1 {
				row[i] = 0
				i++
			}
			if i == long {
				return
			}
			row[i]++
		}
	}
}

// bytewise is a rope of that text, joined of its bytes from the front or from the end.
func bytewise(t *testing.T, s string, back bool) *rope.Rope {
	t.Helper()
	var r *rope.Rope
	for i := range len(s) {
		if back {
			r = joined(t, made(t, s[len(s)-1-i:len(s)-i]), r)
		} else {
			r = joined(t, r, made(t, s[i:i+1]))
		}
	}
	return r
}
