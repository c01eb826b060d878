package runes_test

import (
	"math"
	"math/rand"
	"strings"
	"testing"

	"kerf/api"
	"kerf/runes"
)

func TestP2_6(t *testing.T) {
	for _, l := range lists() {
		if got, want := runes.Print(l), printed(l); got != want {
			t.Errorf("Print(%x): %q; want %q", l, got, want)
		}
	}
	for want, l := range map[string][]api.Range{
		"":                                nil,
		"U+0000":                          set(0, 0),
		"U+0000-U+10FFFF":                 set(math.MinInt32, math.MaxInt32),
		"U+0009 U+000B-U+000C":            set(11, 12, 9, 9),
		"U+00FF U+0FFF U+FFFF U+FFFFF":    set(0xff, 0xff, 0xfff, 0xfff, 0xffff, 0xffff, 0xfffff, 0xfffff),
		"U+D800-U+DFFF":                   set(0xd800, 0xdfff),
		"U+FFFF-U+10000":                  set(0xffff, 0x10000),
		"U+ABCD U+10FFFE":                 set(0x10fffe, 0x10fffe, 0xabcd, 0xabcd),
		"U+0061-U+0062 U+0064":            set('d', 'd', 'b', 'b', 'a', 'a', 9, 8),
		"U+10FFFF":                        set(0x10ffff, 0x110000),
		"U+0027 U+002D-U+002E U+10000":    set('\'', '\'', '-', '.', 0x10000, 0x10000),
		"U+1000-U+1001 U+1003-U+1004":     set(0x1000, 0x1001, 0x1003, 0x1004),
		"U+0001 U+0003 U+0005-U+0006":     set(5, 6, 1, 1, 3, 3),
		"U+100000-U+10FFFF":               set(0x100000, 0x10ffff),
		"U+0020":                          set(' ', ' ', 0x110000, 0x110001),
		"U+0010 U+0100 U+1000 U+10FFFF":   set(0x10, 0x10, 0x100, 0x100, 0x1000, 0x1000, 0x10ffff, 0x10ffff),
		"U+0041-U+0046 U+0061-U+0066":     set('a', 'f', 'A', 'F'),
		"U+DEAD U+FACE U+1BABE":           set(0x1babe, 0x1babe, 0xface, 0xface, 0xdead, 0xdead),
		"U+0000-U+D7FF U+E000-U+10FFFF":   set(0, 0xd7ff, 0xe000, 0x10ffff),
		"U+00A0-U+00AF U+00B1 U+00B3":     set(0xa0, 0xaf, 0xb1, 0xb1, 0xb3, 0xb3),
		"U+0030-U+0039 U+00E9 U+1F600":    set('0', '9', 0xe9, 0xe9, 0x1f600, 0x1f600),
		"U+0002 U+0004 U+0006 U+0008":     set(8, 8, 6, 6, 4, 4, 2, 2),
		"U+0000 U+10FFFF":                 set(-7, 0, 0x10ffff, math.MaxInt32),
		"U+000A-U+000D":                   set(10, 11, 12, 13),
		"U+0001-U+10FFFE":                 set(1, 0x10fffe),
		"U+01FF-U+0200 U+0FFF-U+1000":     set(0x1ff, 0x200, 0xfff, 0x1000),
		"U+00CA U+00FE U+0BAD":            set(0xca, 0xca, 0xfe, 0xfe, 0xbad, 0xbad),
		"U+0123 U+4567 U+89AB U+CDEF":     set(0x123, 0x123, 0x4567, 0x4567, 0x89ab, 0x89ab, 0xcdef, 0xcdef),
		"U+0003-U+0004 U+12345-U+12346":   set(3, 4, 0x12345, 0x12346),
		"U+FFFD":                          set(0xfffd, 0xfffd),
		"U+FFFD-U+FFFE":                   set(0xfffe, 0xfffe, 0xfffd, 0xfffd),
		"U+0061 U+0063 U+0065-U+10FFFF":   set('e', math.MaxInt32, 'c', 'c', 'a', 'a'),
		"U+0000-U+0001 U+0003-U+0004":     set(-1, 1, 3, 4),
		"U+2028-U+2029":                   set(0x2028, 0x2029),
		"U+1100-U+11FF U+AC00-U+D7A3":     set(0xac00, 0xd7a3, 0x1100, 0x11ff),
		"U+E0020-U+E007F":                 set(0xe0020, 0xe007f),
		"U+1F1E6-U+1F1FF U+1F3FB-U+1F3FF": set(0x1f1e6, 0x1f1ff, 0x1f3fb, 0x1f3ff),
	} {
		if got := runes.Print(l); got != want {
			t.Errorf("Print(%x): %q; want %q", l, got, want)
		}
	}
}

func checkParse(t *testing.T, s string) {
	t.Helper()
	l, e, at := runes.Parse(s)
	want, f := parsed(s)
	same(t, s, l, want)
	if (fail{e, at}) != f {
		t.Errorf("Parse(%q): %d, %d; want %d, %d", s, e, at, f.e, f.at)
	}
}

// tokens are parts of spellings, right and wrong ones.
var tokens = []string{
	"U+0041", "U+10FFFF", "U+D800", "U+00e9", "U+0", "U+000", "U+0000041", "U+110000", "U+FFFFFF", "U+", "U", "u+0041",
	"'a'", "'b'", "'''", "' '", "'-'", "'\u20ac'", "'\ufffd'", "'\xff'", "'\xff", "'", "'ab'", "''", "'\xe2\x82'",
	"-", " ", "   ", "x", "0", "\t", "\xff", "\u20ac", "+",
}

func TestP2_7Tokens(t *testing.T) {
	var grow func(s string, depth int)
	grow = func(s string, depth int) {
		checkParse(t, s)
		if depth == 0 {
			return
		}
		for _, x := range tokens {
			grow(s+x, depth-1)
		}
	}
	grow("", 3)
	rnd := rand.New(rand.NewSource(11))
	for range 60000 {
		var b strings.Builder
		for range 4 + rnd.Intn(5) {
			if rnd.Intn(2) == 0 { // most of what has no fault
				b.WriteString([]string{"U+0041", "U+10FFFF", "'a'", "'b'", "'''", "' '", "-", " ", "'\u20ac'"}[rnd.Intn(9)])
			} else {
				b.WriteString(tokens[rnd.Intn(len(tokens))])
			}
		}
		checkParse(t, b.String())
	}
}

func TestP2_7Bytes(t *testing.T) {
	const letters = "U+0F'- \xffa"
	for _, head := range []string{"", "U+00", "'a'-", "'b'-U+004", "'\xe2\x82"} {
		l := []string{head}
		for range 4 {
			var longer []string
			for _, s := range l {
				checkParse(t, s)
				for i := range len(letters) {
					longer = append(longer, s+letters[i:i+1])
				}
			}
			l = longer
		}
	}
	for c := range 256 { // each byte ahead of an item, within one, and behind one
		b := string([]byte{byte(c)})
		for _, s := range []string{b, b + "'a'", "'" + b + "'", "'a'" + b, "'a'-" + b, "'a'-'b'" + b, "'a' " + b, "U+00" + b + "A", "U+0041" + b, "U" + b + "0041", b + "+0041"} {
			checkParse(t, s)
		}
	}
}

func TestP2_7Taken(t *testing.T) {
	for s, want := range map[string][]api.Range{
		"": nil, " ": nil, "     ": nil,
		"U+0041":                           set('A', 'A'),
		" U+0041":                          set('A', 'A'),
		"U+0041 ":                          set('A', 'A'),
		"   U+0041   'c'   ":               set('A', 'A', 'c', 'c'),
		"U+000041":                         set('A', 'A'),
		"U+00041-U+000042":                 set('A', 'B'),
		"U+ABCDE-U+10FFFF":                 set(0xabcde, 0x10ffff),
		"U+D800-U+DFFF":                    set(0xd800, 0xdfff),
		"U+0000-U+10FFFF":                  set(0, 0x10ffff),
		"'''":                              set('\'', '\''),
		"'''-'''":                          set('\'', '\''),
		"' '":                              set(' ', ' '),
		"' '-'~'":                          set(' ', '~'),
		"'-'-'-'":                          set('-', '-'),
		"'+'-'-'":                          set('+', '-'),
		"'a'-U+0063 U+0064-'f'":            set('a', 'f'),
		"'\ufffd'":                         set(0xfffd, 0xfffd),
		"'\x00'-'\U0010ffff'":              set(0, 0x10ffff),
		"'\n' '\t'":                        set(9, 10),
		"'c' 'a' 'b' 'a'":                  set('a', 'c'),
		"'x' 'a'-'f' 'c'-'h' 'j'":          set('a', 'h', 'j', 'j', 'x', 'x'),
		"'a'-'a'":                          set('a', 'a'),
		"'U' '0'":                          set('0', '0', 'U', 'U'),
		"'\u00e9'-'\u20ac' '\U0001f600'":   set(0xe9, 0x20ac, 0x1f600, 0x1f600),
		"U+0061   U+0063 U+0062   'd'-'e'": set('a', 'e'),
	} {
		l, e, at := runes.Parse(s)
		if e != api.OK || at != 0 {
			t.Errorf("Parse(%q): %d, %d", s, e, at)
		}
		same(t, s, l, want)
	}
}

func TestP2_7Refused(t *testing.T) {
	for s, want := range map[string]fail{
		// no spelling
		"x": {api.ErrRune, 0}, "  x": {api.ErrRune, 2}, "\xff": {api.ErrRune, 0}, "\u20ac": {api.ErrRune, 0}, "\t'a'": {api.ErrRune, 0}, "-": {api.ErrRune, 0}, "'a' -'b'": {api.ErrRune, 4},
		"'a' x": {api.ErrRune, 4}, "0041": {api.ErrRune, 0}, "u+0041": {api.ErrRune, 0}, "U0041": {api.ErrRune, 0}, "U": {api.ErrRune, 0}, "'a' U": {api.ErrRune, 4}, "U +0041": {api.ErrRune, 0},
		// digits
		"U+": {api.ErrRune, 0}, "U+4": {api.ErrRune, 0}, "U+41": {api.ErrRune, 0}, "U+041": {api.ErrRune, 0}, "U+0000041": {api.ErrRune, 0}, "U+00000000000000000041": {api.ErrRune, 0},
		"U+FFFFFFFFFFFFFFFFFFFFFFFF": {api.ErrRune, 0}, "U+004a": {api.ErrRune, 0}, "U+0041a": {api.ErrRune, 6}, "U+-0041": {api.ErrRune, 0}, "U+0x41": {api.ErrRune, 0}, "U+00_41": {api.ErrRune, 0}, "U+0041G": {api.ErrRune, 6},
		"U+110000": {api.ErrHex, 0}, "U+FFFFFF": {api.ErrHex, 0}, "'a' U+110000": {api.ErrHex, 4}, "'a'-U+110000": {api.ErrHex, 4}, "U+110000x": {api.ErrHex, 0}, "U+110000-x": {api.ErrHex, 0}, "U+1100000": {api.ErrRune, 0},
		// between two '
		"'": {api.ErrRune, 0}, "''": {api.ErrRune, 0}, "'a": {api.ErrRune, 0}, "'ab'": {api.ErrRune, 0}, "''a": {api.ErrRune, 0}, "'' ": {api.ErrRune, 0}, "''''": {api.ErrRune, 3}, "' ": {api.ErrRune, 0},
		"'\xff'": {api.ErrFault, 1}, "'\xff": {api.ErrRune, 0}, "'\xffx'": {api.ErrRune, 0}, "'\xff\xff'": {api.ErrRune, 0}, "'\xe2\x82'": {api.ErrRune, 0}, "'\xe2'": {api.ErrFault, 1}, "'\x80'": {api.ErrFault, 1},
		"'a' '\xff'": {api.ErrFault, 5}, "'a'-'\xff'": {api.ErrFault, 5}, "'\xff'-'a'": {api.ErrFault, 1}, "'\xff'x": {api.ErrFault, 1}, "'\xed\xa0\x80'": {api.ErrRune, 0},
		// behind a -
		"'a'-": {api.ErrRune, 4}, "'a'- ": {api.ErrRune, 4}, "'a'- 'b'": {api.ErrRune, 4}, "'a'-x": {api.ErrRune, 4}, "'a'--": {api.ErrRune, 4}, "U+0041-": {api.ErrRune, 7}, "'a'-U+41": {api.ErrRune, 4}, "'a'-'": {api.ErrRune, 4}, "'a'-''": {api.ErrRune, 4},
		"'a' 'b'-": {api.ErrRune, 8}, "'a' - 'b'": {api.ErrRune, 4},
		// ends
		"'b'-'a'": {api.ErrEnds, 0}, "  'b'-'a'": {api.ErrEnds, 2}, "U+0042-U+0041": {api.ErrEnds, 0}, "'a' 'z'-'b' 'c'": {api.ErrEnds, 4}, "'b'-'a'x": {api.ErrEnds, 0}, "'b'-'a'-'c'": {api.ErrEnds, 0}, "U+10FFFF-U+0000": {api.ErrEnds, 0},
		"'b'-'\xff'": {api.ErrFault, 5}, "'b'-U+110000": {api.ErrHex, 4}, "'b'-'a": {api.ErrRune, 4},
		// right behind an item
		"'a'x": {api.ErrRune, 3}, "'a''b'": {api.ErrRune, 3}, "'a'U+0041": {api.ErrRune, 3}, "'a'-'b'-'c'": {api.ErrRune, 7}, "'a'-'b'x": {api.ErrRune, 7}, "U+0041'a'": {api.ErrRune, 6}, "U+0041U+0042": {api.ErrRune, 6}, "'a'\xff": {api.ErrRune, 3}, "'a'\t'b'": {api.ErrRune, 3}, "'a',": {api.ErrRune, 3}, "'a'\n": {api.ErrRune, 3},
		// more than one fault: the first is told
		"'b'-'a' 'd'-'c'": {api.ErrEnds, 0}, "U+110000 U+41": {api.ErrHex, 0}, "U+41 U+110000": {api.ErrRune, 0}, "'a'x '\xff'": {api.ErrRune, 3}, "'\xff' 'b'-'a'": {api.ErrFault, 1}, "'a' 'c'-'b' '\xff' U+110000 x": {api.ErrEnds, 4},
	} {
		l, e, at := runes.Parse(s)
		if len(l) != 0 || (fail{e, at}) != want {
			t.Errorf("Parse(%q): %x, %d, %d; want %d, %d", s, l, e, at, want.e, want.at)
		}
		checkParse(t, s)
	}
}

func TestP2_11(t *testing.T) {
	for _, l := range lists() {
		got, e, at := runes.Parse(runes.Print(l))
		if e != api.OK || at != 0 {
			t.Errorf("Parse of Print(%x): %d, %d", l, e, at)
		}
		same(t, "Parse of Print", got, runes.Norm(l))
	}
	for r := rune(0); r <= 0x10ffff; r += 13 {
		l := set(r, r)
		got, _, _ := runes.Parse(runes.Print(l))
		same(t, "Parse of Print of one", got, l)
	}
}

func TestP2_7Examples(t *testing.T) {
	l, e, at := runes.Parse("'a'-'f' U+0030-U+0039")
	same(t, "Parse", l, set(48, 57, 97, 102))
	if s := runes.Print(l); e != api.OK || at != 0 || s != "U+0030-U+0039 U+0061-U+0066" {
		t.Errorf("Print: %q", s)
	}
	for s, want := range map[string]fail{
		"'\xff'": {23, 1}, "U+41": {21, 0}, "U+110000": {22, 0}, "'b'-'a'": {20, 0}, "'a'-": {21, 4}, "'''": {0, 0},
	} {
		if _, e, at := runes.Parse(s); (fail{e, at}) != want {
			t.Errorf("Parse(%q): %d, %d", s, e, at)
		}
	}
}
