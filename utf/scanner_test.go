package utf_test

import (
	"slices"
	"testing"

	"kerf/api"
	"kerf/utf"
)

// feedAll feeds pieces to a scanner that is new, holds each answer against what is sure by then, and closes it.
func feedAll(t *testing.T, x *utf.Scanner, pieces []string, begun map[string]bool) {
	t.Helper()
	var got []api.Mark
	so := ""
	for _, p := range pieces {
		so += p
		got = append(got, x.Feed([]byte(p))...)
		held := heldOf(so, begun)
		if x.Fed() != len(so) || x.Held() != held {
			t.Fatalf("%q: Fed %d, Held %d; want %d, %d", pieces, x.Fed(), x.Held(), len(so), held)
		}
		sure := marksOf(so)
		sure = slices.DeleteFunc(sure, func(m api.Mark) bool { return m.At >= len(so)-held })
		if !slices.Equal(got, sure) {
			t.Fatalf("%q, after %q: told %v, want %v", pieces, so, got, sure)
		}
	}
	got = append(got, x.Close()...)
	if want := marksOf(so); !slices.Equal(got, want) {
		t.Fatalf("%q: told %v, want %v", pieces, got, want)
	}
	if x.Fed() != 0 || x.Held() != 0 {
		t.Fatalf("%q: closed, but Fed %d, Held %d", pieces, x.Fed(), x.Held())
	}
}

// inPieces cuts a text into pieces of one length.
func inPieces(s string, long int) []string {
	var l []string
	for len(s) > long {
		l, s = append(l, s[:long]), s[long:]
	}
	return append(l, s)
}

// byBits cuts a text wherever a bit of cuts is set.
func byBits(s string, cuts int) []string {
	var l []string
	from := 0
	for i := 1; i < len(s); i++ {
		if cuts>>(i-1)&1 == 1 {
			l = append(l, s[from:i])
			from = i
		}
	}
	return append(l, s[from:])
}

func TestP1_6(t *testing.T) {
	begun := beginnings()
	x := utf.NewScanner()
	if x == nil || x.Fed() != 0 || x.Held() != 0 {
		t.Fatal("NewScanner is not new")
	}
	for _, s := range texts() {
		feedAll(t, utf.NewScanner(), []string{s}, begun)
	}
	for _, s := range sharpTexts(4) {
		feedAll(t, x, []string{s}, begun)
	}
}

// A beginning is held as long as it is one: whatever it goes on with then, it is told as the whole is.
func TestP1_6Held(t *testing.T) {
	begun := beginnings()
	for _, r := range []rune{0x80, 0x7ff, 0x800, 0xfff, 0x1000, 0xd7ff, 0xe000, 0xffff, 0x10000, 0x3ffff, 0x40000, 0xfffff, 0x100000, 0x10ffff} {
		q := sequence(r)
		for i := 1; i < len(q); i++ {
			x := utf.NewScanner()
			if l := x.Feed([]byte(q[:i])); len(l) != 0 || x.Held() != i {
				t.Errorf("%q is not held: %v", q[:i], l)
			}
			if l := x.Feed(nil); len(l) != 0 || x.Held() != i {
				t.Errorf("%q is not held on: %v", q[:i], l)
			}
			if l := x.Feed([]byte(q[i:])); !slices.Equal(l, []api.Mark{{At: 0, Width: len(q), R: r}}) || x.Held() != 0 {
				t.Errorf("%q: %v", q, l)
			}
			for c := range 256 {
				feedAll(t, utf.NewScanner(), []string{q[:i], string([]byte{byte(c)}), "!"}, begun)
			}
		}
	}
}

// What can't become a rune is told at once.
func TestP1_6Sure(t *testing.T) {
	for _, s := range []string{"\x80", "\xc0", "\xc1", "\xf5", "\xff", "\xe0\x80", "\xe0\x9f", "\xed\xa0", "\xed\xbf", "\xf0\x80", "\xf0\x8f", "\xf4\x90", "\xf4\xbf", "\xe2\x28", "\xf0\x90\x41"} {
		x := utf.NewScanner()
		if l := x.Feed([]byte(s)); !slices.Equal(l, marksOf(s)) || x.Held() != 0 {
			t.Errorf("%q: %v, Held %d", s, l, x.Held())
		}
	}
	x := utf.NewScanner()
	want := []api.Mark{{At: 0, Width: 1, R: 0xfffd, Bad: true}, {At: 1, Width: 3, R: 0xfffd}}
	if l := x.Feed([]byte("\xff\ufffd")); !slices.Equal(l, want) {
		t.Errorf("a fault, and Instead itself: %v", l)
	}
}

func TestP1_7(t *testing.T) {
	x := utf.NewScanner()
	for range 2 {
		if l := x.Close(); len(l) != 0 || x.Fed() != 0 || x.Held() != 0 {
			t.Errorf("nothing was fed: %v", l)
		}
	}
	for _, s := range []string{"\xc3", "\xe2", "\xe2\x82", "\xf0", "\xf0\x9f", "\xf0\x9f\x98"} {
		x.Feed([]byte("ab" + s))
		want := marksOf("ab" + s)[2:]
		if l := x.Close(); !slices.Equal(l, want) || len(want) != len(s) {
			t.Errorf("Close of %q: %v, want %v", s, l, want)
		}
		if x.Fed() != 0 || x.Held() != 0 || len(x.Close()) != 0 {
			t.Errorf("%q: not as new", s)
		}
		// Nothing of what was ahead of Close has a part in what comes.
		if l := x.Feed([]byte("\x80\u20ac")); !slices.Equal(l, marksOf("\x80\u20ac")) {
			t.Errorf("after Close: %v", l)
		}
		x.Close()
	}
}

func TestP1_7Between(t *testing.T) {
	begun := beginnings()
	x := utf.NewScanner()
	for _, s := range append(named(), mixed(60, 12)...) {
		for cut := range len(s) + 1 { // the text ahead of Close and the one behind it are two
			feedAll(t, x, inPieces(s[:cut], 1), begun)
			feedAll(t, x, inPieces(s[cut:], 2), begun)
		}
	}
}

func TestP1_8(t *testing.T) {
	x := utf.NewScanner()
	fed := 0
	for _, p := range []string{"a", "", "\xe2\x82", "\xac", "\u20ac\xf0\x9f", "\x98\x80\xc3", "zz"} {
		x.Feed([]byte(p))
		if fed += len(p); x.Fed() != fed {
			t.Errorf("Fed: %d, want %d", x.Fed(), fed)
		}
	}
	for i, c := range []byte("\xf0\x9f\x98") {
		x.Feed([]byte{c})
		if x.Held() != i+1 {
			t.Errorf("Held: %d, want %d", x.Held(), i+1)
		}
	}
	if x.Feed([]byte{0x80}); x.Held() != 0 {
		t.Errorf("Held: %d, want 0", x.Held())
	}
}

func TestP1_8Nil(t *testing.T) {
	var x *utf.Scanner
	for _, p := range [][]byte{nil, {}, []byte("a"), []byte("\xe2\x82"), []byte("\xff")} {
		if l := x.Feed(p); len(l) != 0 || x.Held() != 0 || x.Fed() != 0 {
			t.Errorf("Feed(%q): %v", p, l)
		}
		if l := x.Close(); len(l) != 0 {
			t.Errorf("Close: %v", l)
		}
	}
}

func TestP1_12(t *testing.T) {
	begun := beginnings()
	for _, s := range append(named(), mixed(100, 30)...) {
		for long := 1; long <= len(s)+1; long++ {
			feedAll(t, utf.NewScanner(), inPieces(s, long), begun)
		}
	}
	for _, s := range append(named(), sharpTexts(3)...) {
		for cuts := range 1 << min(max(len(s)-1, 0), 8) {
			feedAll(t, utf.NewScanner(), byBits(s, cuts), begun)
		}
	}
}

// Pieces that are empty have no part either, wherever they come.
func TestP1_12Empty(t *testing.T) {
	begun := beginnings()
	for _, s := range append(named(), mixed(60, 12)...) {
		pieces := []string{"", ""}
		for _, p := range inPieces(s, 1) {
			pieces = append(pieces, p, "", "")
		}
		feedAll(t, utf.NewScanner(), pieces, begun)
	}
}

// A long text, in pieces that are as long as they fall.
func TestP1_12Long(t *testing.T) {
	s := ""
	for _, p := range mixed(300, 60) {
		s += p
	}
	want := marksOf(s)
	for _, long := range []int{1, 2, 3, 4, 5, 7, 64, 1000, len(s)} {
		x := utf.NewScanner()
		var got []api.Mark
		for _, p := range inPieces(s, long) {
			got = append(got, x.Feed([]byte(p))...)
		}
		if got = append(got, x.Close()...); !slices.Equal(got, want) {
			t.Errorf("pieces of %d: not the runes of the whole", long)
		}
	}
}

// Rule 3 of DOC.md: what is handed in is not changed and not kept, what is answered is new.
func TestScannerSharesNothing(t *testing.T) {
	room := []byte("ab\xe2\x82zzzz")
	x := utf.NewScanner()
	one := x.Feed(room[:4])
	if string(room) != "ab\xe2\x82zzzz" {
		t.Errorf("what was handed in became %q", room)
	}
	for i := range room {
		room[i] = 'q'
	}
	two := x.Feed([]byte("\xac\xc3"))
	if !slices.Equal(two, []api.Mark{{At: 2, Width: 3, R: 0x20ac}}) {
		t.Errorf("the piece was kept: %v", two)
	}
	piece := []byte("\xa9\xc3zzzz")
	three := x.Feed(piece[:2])
	if string(piece) != "\xa9\xc3zzzz" {
		t.Errorf("what was handed in became %q", piece)
	}
	four := x.Close()
	for _, l := range [][]api.Mark{one, two, three} {
		l = l[:cap(l)]
		for i := range l {
			l[i] = api.Mark{At: -1}
		}
	}
	if !slices.Equal(four, []api.Mark{{At: 7, Width: 1, R: 0xfffd, Bad: true}}) {
		t.Errorf("answers share: %v", four)
	}
}

// Rule 4 of DOC.md: what a scanner tells hangs on what was fed to it alone.
func TestScannersApart(t *testing.T) {
	x, y := utf.NewScanner(), utf.NewScanner()
	x.Feed([]byte("\xe2\x82"))
	y.Feed([]byte("a\xf0\x9f"))
	if x.Held() != 2 || y.Held() != 2 || x.Fed() != 2 || y.Fed() != 3 {
		t.Errorf("Held %d and %d, Fed %d and %d", x.Held(), y.Held(), x.Fed(), y.Fed())
	}
	if l := x.Feed([]byte("\xac")); !slices.Equal(l, []api.Mark{{At: 0, Width: 3, R: 0x20ac}}) {
		t.Errorf("one: %v", l)
	}
	if l := y.Feed([]byte("\x98\x80")); !slices.Equal(l, []api.Mark{{At: 1, Width: 4, R: 0x1f600}}) {
		t.Errorf("the other: %v", l)
	}
}

func TestScannerExample(t *testing.T) {
	x := utf.NewScanner()
	if l := x.Feed([]byte("\xe2\x82")); len(l) != 0 || x.Held() != 2 {
		t.Errorf("%v, Held %d", l, x.Held())
	}
	want := []api.Mark{{At: 0, Width: 1, R: 0xfffd, Bad: true}, {At: 1, Width: 1, R: 0xfffd, Bad: true}, {At: 2, Width: 1, R: 0x41}}
	if l := x.Feed([]byte("A")); !slices.Equal(l, want) {
		t.Errorf("%v, want %v", l, want)
	}
}
