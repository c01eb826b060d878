package width_test

import (
	"math"
	"math/rand"
	"slices"
	"strings"
	"testing"

	"kerf/api"
	"kerf/width"
)

// o8 is how the chapter's examples count.
var o8 = api.Cells{Ambiguous: 1, Tab: 8}

// TestP15_1Check has every edge of the three.
func TestP15_1Check(t *testing.T) {
	ambiguous := map[int]bool{math.MinInt: false, -1: false, 0: false, 1: true, 2: true, 3: false, math.MaxInt: false}
	tab := map[int]bool{math.MinInt: false, -1: false, 0: false, 1: true, 8: true, 63: true, 64: true, 65: false, math.MaxInt: false}
	start := map[int]bool{math.MinInt: false, -1: false, 0: true, 1: true, 1 << 30: true, 1<<30 - 1: true, 1<<30 + 1: false, 1 << 31: false, math.MaxInt: false}
	for a, isA := range ambiguous {
		for b, isB := range tab {
			for c, isC := range start {
				want := api.ErrArg
				if isA && isB && isC {
					want = api.OK
				}
				if got := width.Check(by(a, b, c)); got != want {
					t.Errorf("%d, %d, %d: %d; want %d", a, b, c, got, want)
				}
			}
		}
	}
}

// TestP15_1Refused has what the others answer of an o that is refused.
func TestP15_1Refused(t *testing.T) {
	for _, o := range refused {
		if width.Check(o) != api.ErrArg {
			t.Errorf("%v is taken", o)
		}
		for _, r := range []rune{'a', '\t', 0x4e00, 0x3b1, 0x301, -1, api.MaxRune + 1} {
			if got := width.Rune(r, o); got != 0 {
				t.Errorf("%v: Rune of %x: %d", o, r, got)
			}
		}
		for _, s := range []string{"", "a", "a\tb\n\u4e00", "\xff\t", "\U0001f1e6\U0001f1e7", "\u00a9\ufe0f"} {
			heldRefused(t, s, o)
		}
	}
}

func heldRefused(t *testing.T, s string, o api.Cells) {
	t.Helper()
	if width.Letter(s, o) != 0 || width.Text(s, o) != 0 || width.Widest(s, o) != 0 || width.Plain(s, o) != s {
		t.Errorf("%q, %v: %d, %d, %d, %q", s, o, width.Letter(s, o), width.Text(s, o), width.Widest(s, o), width.Plain(s, o))
	}
	if width.Each(s, o) == nil || len(told(s, o)) != 0 {
		t.Errorf("%q, %v: Each", s, o)
	}
	for _, cells := range []int{math.MinInt, -1, 0, 1, 5, 40, math.MaxInt} {
		if got, column := width.Cut(s, cells, o); got != s || column != 0 {
			t.Errorf("%q, %d, %v: Cut %q, %d", s, cells, o, got, column)
		}
		if got := width.Short(s, cells, "..", o); got != s {
			t.Errorf("%q, %d, %v: Short %q", s, cells, o, got)
		}
		if got := width.Pad(s, cells, 1, o); got != s {
			t.Errorf("%q, %d, %v: Pad %q", s, cells, o, got)
		}
		if got := width.Hit(s, cells, o); got != 0 {
			t.Errorf("%q, %d, %v: Hit %d", s, cells, o, got)
		}
	}
}

// TestP15_2Rune has every rune, the surrogates, and numbers that are no runes.
func TestP15_2Rune(t *testing.T) {
	x := plain(t)
	if got := x.cells.Names(); !slices.Equal(got, []string{"Other", "Zero", "Tab", "Wide", "Ambiguous"}) {
		t.Fatalf("names %q", got)
	}
	for _, o := range []api.Cells{by(1, 8, 0), by(2, 1, 5)} {
		instead := x.cellsOf(api.Instead, o)
		for r := rune(0); r <= api.MaxRune; r++ {
			if got, want := width.Rune(r, o), x.cellsOf(r, o); got != want {
				t.Fatalf("%x, %v: %d; want %d", r, o, got, want)
			}
		}
		for _, r := range []rune{-1, -9, -0xa1, -0x300, -0x4e00, math.MinInt32, math.MinInt32 + 0x4e00, api.MaxRune + 1, 0x200000, 0x1000000d, math.MaxInt32} {
			if got := width.Rune(r, o); got != instead {
				t.Errorf("%d, %v: %d; want %d", r, o, got, instead)
			}
		}
	}
}

// TestP15_3Letter has letters by hand, with 1 and with 2 cells of an ambiguous rune.
func TestP15_3Letter(t *testing.T) {
	for _, x := range []struct {
		s        string
		one, two int
	}{
		{"", 0, 0},
		{"a", 1, 1},
		{"ab\u4e00", 1, 1},
		{"\u4e00a", 2, 2},
		{"\u03b1", 1, 2},
		{"\t", 1, 1},
		{"\n", 0, 0},
		{"\r\n", 0, 0},
		{"\x00", 0, 0},
		{"\u0301", 0, 0},
		{"e\u0301\u0301", 1, 1},
		{"\U0001f1e6", 1, 1},
		{"\U0001f1e6a", 1, 1},
		{"\U0001f1e6\u0301\U0001f1e7", 1, 1}, // the mark ends the letter's flag
		{"\U0001f1e6\U0001f1e7", 2, 2},
		{"\U0001f1e6\U0001f1e7\u0903", 2, 2},
		{"\U0001f1e6\U0001f1e7\U0001f1e8", 2, 2},
		{"\u0600\U0001f1e6\U0001f1e7", 1, 1}, // its first two runes are no flag letters
		{"\U0001f1e6\ufe0f", 1, 1},
		{"\u00a9", 1, 1},
		{"\u00a9\ufe0f", 2, 2},
		{"\u00a9\ufe0e", 1, 1},
		{"\u00a9\u0301\u200d\ufe0f", 2, 2},
		{"\u00a9\u200d\u00ae\ufe0f", 2, 2}, // some rune of it, behind the second picture
		{"\u00a9\u200d\u00ae", 1, 1},
		{"\u00a9a\ufe0f", 1, 1}, // that one is of the next letter
		{"a\ufe0f", 1, 1},
		{"\u0600\u00a9\ufe0f", 1, 1}, // its first rune is no picture
		{"\u25a0", 1, 2},
		{"\u25a0\ufe0f", 2, 2},
		{"\U0001f600", 2, 2},
		{"\U0001f600\ufe0f", 2, 2},
		{"\U0001f000", 1, 1},
		{"\U0001f468\u200d\U0001f469\u200d\U0001f466", 2, 2},
		{"\u0301\u0903", 1, 1}, // marks that are wider than what they stand behind
		{"\u1161\u0e33", 1, 1},
		{"\u200d\u0940", 1, 1},
		{"\u0600\u4e00", 2, 2},
		{"\u0600\u03b1", 1, 2},
		{"\u1100\u1161\u11a8", 2, 2},
		{"\u1161\u11a8", 0, 0},
		{"\uac00\u11a8", 2, 2},
		{"\xff", 1, 1},
		{"\xff\u0301", 1, 1},
		{"\xe4\xb8", 1, 1},
		{"\xf0\x9f\x87\xf0\x9f\x87", 1, 1},
		{"\ufffd", 1, 1},
	} {
		for _, start := range []int{0, 5, api.MaxStart} {
			if got := width.Letter(x.s, by(1, 8, start)); got != x.one {
				t.Errorf("%q: %d; want %d", x.s, got, x.one)
			}
			if got := width.Letter(x.s, by(2, 3, start)); got != x.two {
				t.Errorf("%q: %d; want %d", x.s, got, x.two)
			}
		}
	}
}

// TestP15_4Examples are those of the chapter.
func TestP15_4Examples(t *testing.T) {
	for s, want := range map[string]int{"a\u4e00": 3, "a\tb": 9, "e\u0301": 1, "ab\nc": 1, "\U0001f1e6\U0001f1e7": 2, "\xff": 1, "": 0, "a\xe2\x82\n": 0, "\xe2\x82": 2} {
		if got := width.Text(s, o8); got != want {
			t.Errorf("%q: %d; want %d", s, got, want)
		}
	}
	if got := width.Widest("ab\nc", o8); got != 2 {
		t.Errorf("Widest: %d", got)
	}
}

// TestP15_4LineEnds has every rune that ends a line, and some beside them that do not.
func TestP15_4LineEnds(t *testing.T) {
	for _, o := range options {
		for _, end := range []string{"\n", "\v", "\f", "\r", "\r\n", "\u0085", "\u2028", "\u2029"} {
			if got := width.Text("ab"+end, o); got != 0 {
				t.Errorf("%q, %v: %d", end, o, got)
			}
			want := []pair{{0, o.Start}, {1, o.Start + 1}, {2, o.Start + 2}, {2 + len(end), 0}, {5 + len(end), 2}}
			if got := told("ab"+end+"\u4e00c", o); !slices.Equal(got, want) {
				t.Errorf("%q, %v: %v; want %v", end, o, got, want)
			}
			if got := width.Text("ab"+end+end+"\t", o); got != o.Tab {
				t.Errorf("%q twice, and a tab, %v: %d", end, o, got)
			}
			if got := width.Text("ab"+end+"\u0903", o); got != 1 {
				t.Errorf("%q and a mark, %v: %d", end, o, got)
			}
		}
		for _, other := range []string{"\x08", "\x0e", "\x1c", "\u0084", "\u0086", "\u202a", "\u200b"} {
			if got := width.Text("ab"+other, o); got != o.Start+2 {
				t.Errorf("%q, %v: %d", other, o, got)
			}
		}
		for _, fault := range []string{"\x85", "\x8a", "\xe2\x80"} {
			if got := width.Text("ab"+fault, o); got != o.Start+2+len(fault) {
				t.Errorf("%q, %v: %d", fault, o, got)
			}
		}
	}
}

// TestP15_4Tabs has tabs at a stop, one ahead of it and one behind it.
func TestP15_4Tabs(t *testing.T) {
	for _, x := range []struct {
		s    string
		o    api.Cells
		want int
	}{
		{"\t", by(1, 8, 0), 8},
		{"\t\t", by(1, 8, 0), 16},
		{"1234567\t", by(1, 8, 0), 8},
		{"12345678\t", by(1, 8, 0), 16},
		{"123456789\t", by(1, 8, 0), 16},
		{"\t", by(1, 8, 7), 8},
		{"\t", by(1, 8, 8), 16},
		{"\t", by(1, 8, 9), 16},
		{"\t", by(1, 1, 0), 1},
		{"a\t\tb", by(1, 1, 5), 9},
		{"\t", by(1, 64, 0), 64},
		{"\t", by(1, 64, 63), 64},
		{"\t", by(1, 64, 64), 128},
		{"\t", by(1, 64, 65), 128},
		{"\u4e00\t", by(1, 2, 0), 4},
		{"\u4e00\t", by(1, 3, 0), 3},
		{"\u03b1\t", by(1, 2, 0), 2},
		{"\u03b1\t", by(2, 2, 0), 4},
		{"\t\u0301", by(1, 8, 3), 8}, // the mark is a letter by itself
		{"\t\u0903", by(1, 8, 3), 9},
		{"\u0600\t", by(1, 8, 3), 8},
		{"\t", by(1, 64, api.MaxStart), api.MaxStart + 64},
		{"\t", by(1, 64, api.MaxStart-1), api.MaxStart},
		{"\t", by(1, 3, api.MaxStart), api.MaxStart + 2},
		{"\t\n\t", by(1, 3, api.MaxStart), 3},
		{"\u0009", by(2, 5, 4), 5},
	} {
		if got := width.Text(x.s, x.o); got != x.want {
			t.Errorf("%q, %v: %d; want %d", x.s, x.o, got, x.want)
		}
	}
	if got, want := told("a\t\u0301b", o8), []pair{{0, 0}, {1, 1}, {2, 8}, {4, 8}}; !slices.Equal(got, want) {
		t.Errorf("a tab with a mark: %v; want %v", got, want)
	}
}

// TestP15_4Left has Each left at every letter, gone over again, and nested.
func TestP15_4Left(t *testing.T) {
	const s = "\xffe\u0301\t\u4e00\r\n\U0001f1e6\U0001f1e7\U0001f1e8x"
	o := by(1, 4, 1)
	want := []pair{{0, 1}, {1, 2}, {4, 3}, {5, 4}, {8, 6}, {10, 0}, {18, 2}, {22, 3}}
	each := width.Each(s, o)
	o.Tab, o.Start = 0, -1 // what is gone over is as it was at the call
	for stop := range want {
		var got []pair
		for at, column := range each {
			if got = append(got, pair{at, column}); len(got) == stop+1 {
				break
			}
		}
		if !slices.Equal(got, want[:stop+1]) {
			t.Errorf("left at %d: %v", stop, got)
		}
		count := 0
		each(func(int, int) bool { count++; return count <= stop })
		if count != stop+1 {
			t.Errorf("left at %d: %d told", stop, count)
		}
	}
	i := 0
	for at, column := range each {
		if want[i] != (pair{at, column}) {
			t.Errorf("at %d: %d, %d", i, at, column)
		}
		i++
		j := 0
		for at, column := range each {
			if want[j] != (pair{at, column}) {
				t.Errorf("nested, at %d: %d, %d", j, at, column)
			}
			if j++; j == i {
				break
			}
		}
	}
	if i != len(want) {
		t.Errorf("%d letters", i)
	}
	if width.Each("", o8) == nil || len(told("", o8)) != 0 {
		t.Errorf("letters of nothing")
	}
}

// TestP15_4Widest has the widest place at the beginning, ahead of a line's end, behind it, and at the end.
func TestP15_4Widest(t *testing.T) {
	for _, x := range []struct {
		s     string
		start int
		want  int
	}{
		{"", 0, 0},
		{"", 5, 5},
		{"", api.MaxStart, api.MaxStart},
		{"\n", 5, 5},
		{"\nabc", 5, 5},
		{"\nabcdef", 5, 6},
		{"ab\nc", 0, 2},
		{"ab\nc", 9, 11},
		{"a\nbcd", 0, 3},
		{"a\nbcd\ne", 0, 3},
		{"a\n\u4e00\u4e00", 0, 4},
		{"abc\r\n\tx", 0, 9},
		{"abc\r\n\t\u2028", 0, 8},
		{"\u0301", 7, 7},
		{"a\t", api.MaxStart, api.MaxStart + 8},
		{"\n\n\n", 0, 0},
	} {
		if got := width.Widest(x.s, by(1, 8, x.start)); got != x.want {
			t.Errorf("%q from %d: %d; want %d", x.s, x.start, got, x.want)
		}
	}
}

// TestP15Rows has all calls of every row of up to two kinds, with every one of options, the tails in turn.
func TestP15Rows(t *testing.T) {
	x := plain(t)
	n := 0
	for long := range 3 {
		for s := range rows(long, byKind...) {
			for i := range options {
				n++
				held(t, x, s, tails[n%len(tails)], options[i])
			}
		}
	}
}

// TestP15Further has longer rows of the kinds that make up letters of several runes, or move what stands behind them.
func TestP15Further(t *testing.T) {
	x := plain(t)
	n := 0
	for _, of := range [][]string{{"a", "\t", "\u4e00", "\n"}, {"\U0001f1e6", "\u00a9", "\ufe0f", "\u200d"}, {"\t", "\u0903", "\u0600", "\u0301"}, {"\u03b1", "\t", "\xff", "\r", "\n"}} {
		for s := range rows(4, of...) {
			n++
			held(t, x, s, tails[n%len(tails)], options[n%7])
			held(t, x, s, tails[(n+7)%len(tails)], options[n%9])
		}
	}
}

// TestP15Any has texts of any runes and bytes.
func TestP15Any(t *testing.T) {
	x := plain(t)
	r := rand.New(rand.NewSource(15))
	for range 6000 {
		held(t, x, someText(r, 12), tails[r.Intn(len(tails))], options[r.Intn(len(options))])
	}
	for range 2000 {
		held(t, x, someText(r, 9), someText(r, 5), by(1+r.Intn(2), 1+r.Intn(12), r.Intn(20)))
	}
	for range 2000 {
		bytes := make([]byte, r.Intn(12))
		for i := range bytes {
			bytes[i] = "a\t\n\x80\xcc\x81\xe2\x80\x8d\xa8\xf0\x9f\x87\xa6\xff\xb8\xe4\xc2\x85"[r.Intn(19)]
		}
		held(t, x, string(bytes), tails[r.Intn(len(tails))], options[r.Intn(len(options))])
	}
}

// TestP15Faults has bytes that belong to no rune at both ends, each a letter of one cell.
func TestP15Faults(t *testing.T) {
	x := plain(t)
	for _, fault := range []string{"\x80", "\xff", "\xc2", "\xe2\x80", "\xf0\x9f\x87", "\xed\xa0\x80"} {
		if got := width.Text(fault, o8); got != len(fault) {
			t.Errorf("%q: %d", fault, got)
		}
		for _, s := range byKind {
			for _, text := range []string{fault + s + fault, fault + "a\t" + s, s + "\t\u4e00" + fault} {
				held(t, x, text, fault, o8)
				held(t, x, text, "", by(2, 3, 2))
			}
		}
	}
}

// TestP15Long has texts that no one would wait for, if what stands ahead were gone through again at each letter, or a tail at each.
func TestP15Long(t *testing.T) {
	const n = 200000
	wide := strings.Repeat("\u4e00", n)
	if got := width.Text(wide, o8); got != 2*n {
		t.Errorf("Text: %d", got)
	}
	if got := width.Short(wide, 2*n-1, strings.Repeat(".", n-1), o8); got != wide[:3*n/2]+strings.Repeat(".", n-1) {
		t.Errorf("Short: %d bytes", len(got))
	}
	flags := strings.Repeat("\U0001f1e6", n)
	if got, column := width.Cut(flags+"x", n+1, o8); got != flags+"x" || column != n+1 {
		t.Errorf("Cut: %d bytes, %d", len(got), column)
	}
	if got := width.Hit(flags, n-1, o8); got != 4*n-8 {
		t.Errorf("Hit: %d", got)
	}
	marks := "e" + strings.Repeat("\u0301", n)
	if got := width.Letter(marks, o8); got != 1 {
		t.Errorf("Letter: %d", got)
	}
	tabs := by(1, 64, api.MaxStart)
	if got, want := width.Widest(strings.Repeat("\t", n), tabs), api.MaxStart+64*n; got != want {
		t.Errorf("Widest: %d; want %d", got, want)
	}
	if got := width.Plain(strings.Repeat("a\t", n), tabs); len(got) != 64*n {
		t.Errorf("Plain: %d bytes", len(got))
	}
}
