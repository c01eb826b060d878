package props_test

import (
	"math"
	"slices"
	"strings"
	"sync"
	"testing"
	"unicode/utf8"

	"kerf/api"
	"kerf/props"
	"kerf/runes"
	"kerf/utf"
)

const letters = "U+0300-U+036F ; Extend # marks\n'a'-'z' U+00E9 ; Letter\n"

func TestP4_2Names(t *testing.T) {
	for s, want := range map[string][]string{
		"":    {"Other"},
		"; A": {"Other", "A"},
		"'b' ; B\n'a' ; A\n'c' ; B\n; C\n'd' ; A": {"Other", "B", "A", "C"},
		"; Z\n; z\n; A": {"Other", "Z", "z", "A"},
	} {
		d := made(t, s)
		if got := d.Names(); !slices.Equal(got, want) {
			t.Errorf("%q: Names: %q; want %q", s, got, want)
		}
		l := d.Names()
		l[0] = "x"
		_ = append(l[:len(l):cap(l)], "y")
		if got := d.Names(); !slices.Equal(got, want) {
			t.Errorf("%q: Names, when an answer was changed: %q", s, got)
		}
	}
}

func TestP4_2Class(t *testing.T) {
	d := made(t, letters)
	for name, want := range map[string]int{"Other": 0, "Extend": 1, "Letter": 2} {
		if got, ok := d.Class(name); got != want || !ok {
			t.Errorf("Class(%q): %d, %v", name, got, ok)
		}
	}
	for _, name := range []string{"", "other", "letter", "Letter ", "Lette", "Letters", "1", "\xff", "Extend\x00", strings.Repeat("L", 1000)} {
		if got, ok := d.Class(name); got != 0 || ok {
			t.Errorf("Class(%q): %d, %v", name, got, ok)
		}
	}
	if got, ok := made(t, "").Class("Other"); got != 0 || !ok {
		t.Errorf("of the empty text Class(Other): %d, %v", got, ok)
	}
}

func TestP4_2Get(t *testing.T) {
	d := made(t, "U+0000 ; A\n'a'-'c' U+D800-U+DFFF ; B\nU+FFFD ; C\nU+10FFFF ; D")
	for r, want := range map[rune]int{0: 1, 1: 0, '`': 0, 'a': 2, 'b': 2, 'c': 2, 'd': 0, 0xd7ff: 0, 0xd800: 2, 0xdbff: 2, 0xdfff: 2, 0xe000: 0, 0xfffc: 0, 0xfffd: 3, 0xfffe: 0, 0x10fffe: 0, 0x10ffff: 4} {
		if got := d.Get(r); got != want {
			t.Errorf("Get(%x): %d; want %d", r, got, want)
		}
	}
	for _, r := range odd {
		if got := d.Get(r); got != 3 {
			t.Errorf("Get(%d): %d; want that of U+FFFD", r, got)
		}
		if got := made(t, letters).Get(r); got != 0 {
			t.Errorf("Get(%d): %d; want that of U+FFFD, 0", r, got)
		}
	}
}

func TestP4_2Set(t *testing.T) {
	d := made(t, "'c' ; A\n'x' 'a'-'b' ; A\n'd' ; B\n; C")
	for c, want := range map[int]string{0: "U+0000-U+0060 U+0065-U+0077 U+0079-U+10FFFF", 1: "U+0061-U+0063 U+0078", 2: "U+0064", 3: "", 4: "", -1: "", 63: "", 64: "", math.MaxInt: "", math.MinInt: "", 1 << 32: ""} {
		l := d.Set(c)
		if got := runes.Print(l); got != want || !runes.Is(l) {
			t.Errorf("Set(%d): %x; want %q", c, l, want)
		}
		for i := range l {
			l[i] = api.Range{}
		}
		if got := runes.Print(d.Set(c)); got != want {
			t.Errorf("Set(%d), when an answer was changed: %q", c, got)
		}
	}
	if l := made(t, "U+0000-U+10FFFF ; All").Set(0); len(l) != 0 {
		t.Errorf("where all have a class, 0 has %x", l)
	}
	if l := made(t, "").Set(0); !slices.Equal(l, []api.Range{{Lo: 0, Hi: 0x10ffff}}) {
		t.Errorf("of the empty text 0 has %x", l)
	}
}

func TestP4_2Ranged(t *testing.T) {
	d := made(t, "'e' ; B\n'a' ; A\n'c'-'d' ; A\n'b' ; A\n'f' ; A\n'h' ; B")
	want := []api.Ranged{{Lo: 'a', Hi: 'd', Class: 2}, {Lo: 'e', Hi: 'e', Class: 1}, {Lo: 'f', Hi: 'f', Class: 2}, {Lo: 'h', Hi: 'h', Class: 1}}
	l := d.Ranged()
	if !slices.Equal(l, want) {
		t.Errorf("Ranged: %x; want %x", l, want)
	}
	for i := range l {
		l[i] = api.Ranged{}
	}
	if l := d.Ranged(); !slices.Equal(l, want) || d.Get('a') != 2 {
		t.Errorf("Ranged, when an answer was changed: %x", l)
	}
	if l := made(t, "; A").Ranged(); len(l) != 0 {
		t.Errorf("of a class with no runes: %x", l)
	}
	// The greatest number of ranges that a text can spell.
	var b strings.Builder
	for r := rune('0'); b.Len() < 65000; r += 2 {
		if r != 0xd800 {
			b.WriteString("'" + string(r) + "';" + "AB"[r/2%2:][:1] + "\n")
		}
		if r > 0xd000 {
			break
		}
	}
	if d := made(t, b.String()); len(d.Ranged()) != strings.Count(b.String(), "\n") {
		t.Errorf("%d ranges", len(d.Ranged()))
	}
}

// told is what Each goes over.
func told(d *props.Db, s string) []marked {
	var l []marked
	for at, c := range d.Each(s) {
		l = append(l, marked{at, c})
	}
	return l
}

func classes(l []marked) []int {
	var out []int
	for _, m := range l {
		out = append(out, m.class)
	}
	return out
}

func TestP4_3(t *testing.T) {
	for i, x := range good() {
		if i%5 > 0 && i > 60 {
			continue
		}
		d, p := made(t, x), plainly(t, x)
		for _, s := range texts() {
			want := p.marks(s)
			if got := told(d, s); !slices.Equal(got, want) {
				t.Errorf("%.60q: Each(%q): %v; want %v", x, s, got, want)
			}
			if got := d.Of(s); !slices.Equal(got, classes(want)) {
				t.Errorf("%.60q: Of(%q): %v; want %v", x, s, got, classes(want))
			}
		}
	}
}

func TestP4_3Faults(t *testing.T) {
	d := made(t, "U+FFFD ; Instead\nU+0080-U+00FF ; Bytes\nU+D800-U+DFFF ; Surrogate")
	for s, want := range map[string][]int{
		"\xff": {1}, "\xc3": {1}, "\u00c3": {2}, "a\xe2\x82z": {0, 1, 1, 0}, "\xed\xa0\x80": {1, 1, 1}, "\ufffd": {1}, "\xef\xbf": {1, 1}, "": nil,
	} {
		if got := d.Of(s); !slices.Equal(got, want) {
			t.Errorf("Of(%q): %v; want %v", s, got, want)
		}
	}
}

func TestP4_3Each(t *testing.T) {
	d := made(t, letters)
	const s = "e\u0301\xffa"
	seq := d.Each(s)
	want := []marked{{0, 2}, {1, 1}, {3, 0}, {4, 2}}
	for n := 1; n <= 4; n++ { // left early
		var l []marked
		for at, c := range seq {
			if l = append(l, marked{at, c}); len(l) == n {
				break
			}
		}
		if !slices.Equal(l, want[:n]) {
			t.Errorf("left after %d: %v", n, l)
		}
	}
	for range 2 { // again
		var l []marked
		for at, c := range seq {
			l = append(l, marked{at, c})
		}
		if !slices.Equal(l, want) {
			t.Errorf("again: %v", l)
		}
	}
	var l []marked
	for at, c := range seq { // nested
		for at2, c2 := range seq {
			l = append(l, marked{at, c}, marked{at2, c2})
		}
	}
	if len(l) != 32 {
		t.Errorf("nested: %v", l)
	}
	for i, m := range want {
		for j, n := range want {
			if k := 2 * (4*i + j); l[k] != m || l[k+1] != n {
				t.Errorf("nested, %d, %d: %v, %v", i, j, l[k], l[k+1])
			}
		}
	}
	if d.Each("") == nil {
		t.Error("Each of nothing is nil")
	}
	for at, c := range d.Each("") {
		t.Errorf("Each of nothing: %d, %d", at, c)
	}
}

func TestP4_3OfIsNew(t *testing.T) {
	d := made(t, letters)
	l := d.Of("abc")
	l[0] = 9
	_ = append(l, 9)
	if got := d.Of("abc"); !slices.Equal(got, []int{2, 2, 2}) {
		t.Errorf("Of, when an answer was changed: %v", got)
	}
}

func TestP4_4(t *testing.T) {
	for s, want := range map[string]string{
		"":                                  "",
		"# x":                               "",
		"; A":                               "; A\n",
		"'a' ; A":                           "U+0061 ; A\n",
		"'a' 'c' 'b' ; B\n; A\n'0' ; B":     "U+0030 U+0061-U+0063 ; B\n; A\n",
		"'b' ; B\n'a' ; A\n'c' ; B":         "U+0062-U+0063 ; B\nU+0061 ; A\n",
		"U+0000-U+10FFFF ; A":               "U+0000-U+10FFFF ; A\n",
		"U+D800-U+DFFF U+100000 ; A # '#'":  "U+D800-U+DFFF U+100000 ; A\n",
		"; C\n; B\n; A\n'a' ; B\n'b' ; C":   "U+0062 ; C\nU+0061 ; B\n; A\n",
		"\t'a'\t;\tA\n\n#\n'c' ; A\n'b';A#": "U+0061-U+0063 ; A\n",
	} {
		if got := made(t, s).Text(); got != want {
			t.Errorf("%q: Text: %q; want %q", s, got, want)
		}
	}
}

func TestP4_6Name(t *testing.T) {
	l := []string{"", "Other", "A_b9", strings.Repeat("x", 31), strings.Repeat("x", 32), strings.Repeat("x", 33), strings.Repeat("x", 5000), "x" + strings.Repeat("9", 31), "x" + strings.Repeat("_", 32),
		strings.Repeat("x", 30) + "\u00e9", strings.Repeat("x", 31) + "\u00e9", "a\u00e9", "\u00e9", "\u0410", "a\u0410", "a\u0661", "a\n", "a ", " a", "ab\xff", "\xe2\x82\xac"}
	for a := range 256 {
		l = append(l, string([]byte{byte(a)}))
		for b := range 256 {
			l = append(l, string([]byte{byte(a), byte(b)}), string([]byte{'x', byte(a), byte(b)}), string([]byte{'x', byte(a), 'y', byte(b), 'z'}))
		}
	}
	n := 0
	for _, s := range l {
		if props.Name(s) != plainName(s) {
			t.Errorf("Name(%q): %v", s, props.Name(s))
		}
		if props.Name(s) {
			n++
		}
	}
	if n < 52+52*63+63*63 {
		t.Errorf("only %d names", n)
	}
	if !props.Name("Other") || props.Name("9a") || props.Name("_a") || props.Name("") || !props.Name(strings.Repeat("x", 32)) || props.Name(strings.Repeat("x", 33)) {
		t.Error("Name fails at its edges")
	}
}

func TestP4_6Nil(t *testing.T) {
	var d *props.Db
	for _, r := range append([]rune{0, 'a', 0xd800, 0xfffd, 0x10ffff}, odd...) {
		if d.Get(r) != 0 {
			t.Errorf("Get(%x): %d", r, d.Get(r))
		}
	}
	for _, name := range []string{"", "Other", "A"} {
		if c, ok := d.Class(name); c != 0 || ok {
			t.Errorf("Class(%q): %d, %v", name, c, ok)
		}
	}
	for _, c := range []int{-1, 0, 1, 64} {
		if l := d.Set(c); len(l) != 0 {
			t.Errorf("Set(%d): %x", c, l)
		}
	}
	if len(d.Names()) != 0 || len(d.Ranged()) != 0 || len(d.Of("a\xff")) != 0 || len(d.Of("")) != 0 || d.Text() != "" {
		t.Error(d.Names(), d.Ranged(), d.Of("a"), d.Text())
	}
	if d.Each("a") == nil {
		t.Fatal("Each is nil")
	}
	for at, c := range d.Each("a\xff") {
		t.Errorf("Each: %d, %d", at, c)
	}
}

// apart: P4.7 of one database, rune for rune.
func apart(t *testing.T, what string, d *props.Db) {
	t.Helper()
	var class [0x110000]int8
	for i := range class {
		class[i] = -1
	}
	for c := range d.Names() {
		for _, g := range d.Set(c) {
			for r := g.Lo; r <= g.Hi; r++ {
				if class[r] >= 0 {
					t.Fatalf("%.60q: %x has %d and %d", what, r, class[r], c)
				}
				class[r] = int8(c)
			}
		}
	}
	for r, c := range class {
		if c < 0 || int(c) != d.Get(rune(r)) {
			t.Fatalf("%.60q: Get(%x): %d; it lies in the set of %d", what, r, d.Get(rune(r)), c)
		}
	}
}

func TestP4_7(t *testing.T) {
	for i, s := range good() {
		if i < 45 || i%40 == 0 {
			apart(t, s, made(t, s))
		}
	}
}

// alike: whether both have the same names, and of every rune the same class.
func alike(a, b *props.Db) bool {
	if !slices.Equal(a.Names(), b.Names()) {
		return false
	}
	for c := range a.Names() {
		if !slices.Equal(a.Set(c), b.Set(c)) {
			return false
		}
	}
	return slices.Equal(a.Ranged(), b.Ranged()) && a.Text() == b.Text()
}

func TestP4_8(t *testing.T) {
	for _, s := range good() {
		d := made(t, s)
		back := made(t, d.Text())
		if !alike(d, back) {
			t.Errorf("%.80q: Text is %.80q, whose Text is %.80q", s, d.Text(), back.Text())
		}
		for r := rune(0); r <= 0x10ffff; r += 211 {
			if d.Get(r) != back.Get(r) {
				t.Errorf("%.80q: Get(%x): %d; of its Text %d", s, r, d.Get(r), back.Get(r))
			}
		}
	}
	lines := []string{"'a'-'c' ; A", "'e' ; A", "'d' ; A", "'b' 'x' ; A", "; A"} // in any order
	want := made(t, strings.Join(lines, "\n"))
	var grow func(l, rest []string)
	grow = func(l, rest []string) {
		if len(rest) == 0 {
			if d := made(t, strings.Join(l, "\n")); !alike(d, want) {
				t.Errorf("%q: %q", l, d.Text())
			}
		}
		for i := range rest {
			grow(append(slices.Clone(l), rest[i]), slices.Concat(rest[:i], rest[i+1:]))
		}
	}
	grow(nil, lines)
	// Where the spellings are longer than they were, the text need not be one that New takes.
	var b strings.Builder
	for r := rune(0x4e00); b.Len() < 65000; r += 2 {
		b.WriteString("'" + string(r) + "' ")
	}
	if d := made(t, b.String()+"; A"); len(d.Text()) <= 65536 || len(d.Set(1)) != strings.Count(b.String(), " ") {
		t.Errorf("%d bytes", len(d.Text()))
	}
}

func TestP4_10(t *testing.T) {
	l := texts()
	for i, x := range good() {
		if i%6 > 0 && i > 45 {
			continue
		}
		d := made(t, x)
		for _, s := range l {
			of := d.Of(s)
			if len(of) != utf.Count(s) || len(of) != utf8.RuneCountInString(s) {
				t.Errorf("%.60q: Of(%q) has %d", x, s, len(of))
			}
			if got := classes(told(d, s)); !slices.Equal(got, of) {
				t.Errorf("%.60q: Each(%q): %v; Of: %v", x, s, got, of)
			}
			for _, u := range l[:25] {
				if !slices.Equal(utf.Runes(s+u), slices.Concat(utf.Runes(s), utf.Runes(u))) {
					continue
				}
				if got := d.Of(s + u); !slices.Equal(got, slices.Concat(of, d.Of(u))) {
					t.Errorf("%.60q: Of(%q and %q): %v", x, s, u, got)
				}
			}
		}
	}
}

// TestGoroutines: several use one database, and all of them are told the same.
func TestGoroutines(t *testing.T) {
	d, p := made(t, api.GraphemeProps), plainly(t, api.GraphemeProps)
	want, crossed := d.Text(), ""
	if x, e := props.Cross(d, made(t, letters)); e == api.OK {
		crossed = x.Text()
	}
	l := texts()
	var g sync.WaitGroup
	for n := range 8 {
		g.Go(func() {
			for i := range l {
				s := l[(i+n)%len(l)]
				if !slices.Equal(told(d, s), p.marks(s)) || !slices.Equal(d.Of(s), classes(p.marks(s))) {
					t.Errorf("Each(%q): %v", s, told(d, s))
				}
				if c, ok := d.Class("ZWJ"); c != 5 || !ok || d.Get(0x200d) != 5 {
					t.Errorf("Class: %d, %v", c, ok)
				}
			}
			x, _ := props.Cross(d, made(t, letters))
			if d.Text() != want || x.Text() != crossed || !slices.Equal(d.Names(), p.names) || !slices.Equal(d.Ranged(), p.ranged()) || !slices.Equal(d.Set(4), p.set(4)) {
				t.Error("a goroutine is told something else")
			}
		})
	}
	g.Wait()
}

func TestP4Examples(t *testing.T) {
	d := made(t, letters)
	if l := d.Names(); !slices.Equal(l, []string{"Other", "Extend", "Letter"}) || d.Get(0xe9) != 2 {
		t.Errorf("%q, %d", l, d.Get(0xe9))
	}
	if l := d.Of("e\u0301\xff"); !slices.Equal(l, []int{2, 1, 0}) {
		t.Errorf("%v", l)
	}
	if s := d.Text(); s != "U+0300-U+036F ; Extend\nU+0061-U+007A U+00E9 ; Letter\n" {
		t.Errorf("%q", s)
	}
}
