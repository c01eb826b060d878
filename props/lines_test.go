package props_test

import (
	"fmt"
	"math/rand"
	"slices"
	"strings"
	"testing"

	"kerf/api"
	"kerf/props"
)

// made is what New makes of a text that it must take.
func made(t *testing.T, text string) *props.Db {
	t.Helper()
	d, e, line := props.New(text)
	if d == nil || e != api.OK || line != 0 {
		t.Fatalf("New(%.80q): %d, %d", text, e, line)
	}
	return d
}

// plainly is the plain database of a text that has no fault.
func plainly(t *testing.T, text string) plain {
	t.Helper()
	p, f := plainOf(text)
	if f != (fail{}) {
		t.Fatalf("%.80q: %d, %d", text, f.e, f.line)
	}
	return p
}

// same holds all that a database tells against the plain one.
func same(t *testing.T, what string, d *props.Db, p plain) {
	t.Helper()
	if d == nil {
		t.Fatalf("%.80q: nil", what)
	}
	if got := d.Names(); !slices.Equal(got, p.names) {
		t.Fatalf("%.80q: Names: %q; want %q", what, got, p.names)
	}
	for c, name := range p.names {
		if got, ok := d.Class(name); got != c || !ok {
			t.Errorf("%.80q: Class(%q): %d, %v; want %d", what, name, got, ok, c)
		}
		if got, want := d.Set(c), p.set(c); !slices.Equal(got, want) {
			t.Errorf("%.80q: Set(%d): %x; want %x", what, c, got, want)
		}
	}
	for _, n := range p.turns() {
		for _, r := range []rune{n - 1, n, n + 1} {
			if got, want := d.Get(r), p.class(r); got != want {
				t.Errorf("%.80q: Get(%x): %d; want %d", what, r, got, want)
			}
		}
	}
	if got, want := d.Ranged(), p.ranged(); !slices.Equal(got, want) {
		t.Errorf("%.80q: Ranged: %x; want %x", what, got, want)
	}
	if got, want := d.Text(), p.text(); got != want {
		t.Errorf("%.80q: Text: %q; want %q", what, got, want)
	}
}

// check holds what New makes of any text against the chapter.
func check(t *testing.T, text string) api.Errno {
	t.Helper()
	p, want := plainOf(text)
	d, e, line := props.New(text)
	if (fail{e, line}) != want || (d == nil) != (e != api.OK) {
		t.Fatalf("New(%.120q): %d, %d; want %d, %d", text, e, line, want.e, want.line)
	}
	if d != nil {
		same(t, text, d, p)
	}
	return e
}

// TestP4_1 holds the databases of many texts, and all that they tell, against plain ones: P4.2 and P4.4 too.
func TestP4_1(t *testing.T) {
	for _, s := range good() {
		same(t, s, made(t, s), plainly(t, s))
	}
}

// row is a text, and what New answers of it.
type row struct {
	text string
	e    api.Errno
	line int
}

func refuse(t *testing.T, l []row) {
	t.Helper()
	for _, y := range l {
		d, e, line := props.New(y.text)
		if e != y.e || line != y.line || (d == nil) != (y.e != api.OK) {
			t.Errorf("New(%.120q): %v, %d, %d; want %d, %d", y.text, d != nil, e, line, y.e, y.line)
		}
		check(t, y.text)
	}
}

func TestP4_1Length(t *testing.T) {
	fill := func(s string, n int) string { return s + strings.Repeat("#", n-len(s)) }
	refuse(t, []row{
		{fill("'a' ; A ", 65536), 0, 0},
		{fill("'a' ; A ", 65537), api.ErrLong, 0},
		{strings.Repeat("\n", 65536), 0, 0},
		{strings.Repeat("\n", 65537), api.ErrLong, 0},
		{strings.Repeat("\n", 65535) + "x", api.ErrLine, 65536},
		{fill("wrong\n", 65536), api.ErrLine, 1},
		{fill("wrong\n", 65537), api.ErrLong, 0}, // the length ahead of all lines
		{strings.Repeat("x", 1<<20), api.ErrLong, 0},
		{strings.Repeat(" ", 65536), 0, 0},
		{strings.Repeat("'", 65536), api.ErrLine, 1},
		{strings.Repeat("'a' ", 16383) + ";A", 0, 0},
	})
	if d := made(t, fill("'a' ; A ", 65536)); d.Get('a') != 1 {
		t.Error("the longest text has no class of a")
	}
}

func TestP4_1Lines(t *testing.T) {
	refuse(t, []row{
		{"", 0, 0}, {"\n", 0, 0}, {"\n\n\n", 0, 0}, {" \n\t\n \t \n", 0, 0}, {"#", 0, 0}, {" # x\n\t#\n##\n", 0, 0},
		{"x", api.ErrLine, 1}, {"x\n", api.ErrLine, 1}, {"\nx", api.ErrLine, 2}, {"\nx\n", api.ErrLine, 2}, {"# a\n\n \t\n; A\nx", api.ErrLine, 5},
		{"'a' ; A\r\n", api.ErrName, 1}, {"\r", api.ErrLine, 1}, {"\v", api.ErrLine, 1}, {"\u00a0", api.ErrLine, 1}, {"\x00", api.ErrLine, 1}, // 32 and 9 alone are blanks
		{"'a' ; A\v", api.ErrName, 1}, {"'a' ; A\u00a0", api.ErrName, 1}, {"\r'a' ; A", api.ErrRune, 1}, {"'a'\r; A", api.ErrRune, 1}, {"'a'\r'b' ; A", api.ErrRune, 1},
		{"'\n' ; A", api.ErrLine, 1}, {"'a' ;\nA", api.ErrName, 1}, {"'a'\n; A", api.ErrLine, 1}, {"'a'-\n'b' ; A", api.ErrLine, 1}, // a line ends, whatever stands about it
	})
	for _, s := range []string{"'a';A", "'a' ; A", "\t'a'\t;\tA\t", "  'a'  ;  A  ", " \t 'a' \t ; \t A \t ", "'a';A#", "'a' ; A # x ; y 'b'", "\n'a' ; A\n", "#\n'a' ; A", "'a' ; A\n#'b' ; A"} {
		for _, end := range []string{"", "\n", "\n\n"} {
			d := made(t, s+end)
			if got := d.Text(); got != "U+0061 ; A\n" {
				t.Errorf("%q: %q", s+end, got)
			}
		}
	}
	for _, s := range []string{"'a' 'c' ; A", "'a'\t'c';A", "\t'a'\t \t'c'\t;A", "'a'  'c'; A", "U+0061\tU+0063\t;\tA"} {
		if got := made(t, s).Text(); got != "U+0061 U+0063 ; A\n" {
			t.Errorf("%q: %q", s, got)
		}
	}
}

func TestP4_1Spellings(t *testing.T) {
	for s, want := range map[string]string{
		"'#' ; A":                "U+0023 ; A\n",
		"';' ; A":                "U+003B ; A\n",
		"'#'-';' ; A # ';'":      "U+0023-U+003B ; A\n",
		"';' '#' ';' ; A":        "U+0023 U+003B ; A\n",
		"''' ; A":                "U+0027 ; A\n",
		"''' '#' ; A":            "U+0023 U+0027 ; A\n",
		"'''-';' ; A":            "U+0027-U+003B ; A\n",
		"'a' ; A # it's '#' ; B": "U+0061 ; A\n",
		"'a' ; A #'":             "U+0061 ; A\n",
		"# ' ; \n'a' ; A":        "U+0061 ; A\n",
		"'\t' ; A":               "U+0020 ; A\n", // a tab is taken for a blank, within a spelling too
		"'\t'-'a' ; A":           "U+0020-U+0061 ; A\n",
		"' ' ; A":                "U+0020 ; A\n",
		"U+0009 ; A":             "U+0009 ; A\n",
		"'\ufffd' ; A":           "U+FFFD ; A\n",
		"U+D800-U+DFFF ; A":      "U+D800-U+DFFF ; A\n",
		"U+DC00 'a' ; A":         "U+0061 U+DC00 ; A\n",
		"; A":                    "; A\n",
		";A\n;B\n'b' ; B":        "; A\nU+0062 ; B\n",
		"'a' ; A\n; A":           "U+0061 ; A\n",
		"; A\n'a' ; A":           "U+0061 ; A\n",
	} {
		if got := made(t, s).Text(); got != want {
			t.Errorf("%q: %q; want %q", s, got, want)
		}
		check(t, s)
	}
	refuse(t, []row{
		{"'# ; A", api.ErrLine, 1}, {"'#", api.ErrLine, 1}, {"'", api.ErrLine, 1}, {"''", api.ErrLine, 1}, {"''#", api.ErrLine, 1}, {"'''#'", api.ErrLine, 1}, {"'''#' ; A", api.ErrLine, 1},
		{"'ab#' ; A", api.ErrLine, 1}, {"'ab'#' ; A", api.ErrRune, 1}, {"'ab';' ; A", api.ErrRune, 1}, {"'a';' ; A", api.ErrName, 1}, {"'a;' ; A", api.ErrName, 1}, {"';;' ; A", api.ErrName, 1},
		{"'; A", api.ErrRune, 1}, {"''; A", api.ErrRune, 1}, {"''';A", 0, 0}, {"''''; A", api.ErrRune, 1}, {"''''';A", api.ErrRune, 1}, {"';' A", api.ErrLine, 1}, {"';';A", 0, 0}, {"';'", api.ErrLine, 1}, {"';", api.ErrName, 1}, {"' ;", api.ErrName, 1},
		{"U+0041'#' ; A", api.ErrRune, 1}, {"U+0041';' A", api.ErrLine, 1}, {"x'#' ; A", api.ErrRune, 1}, {"'a' ; A'#'", api.ErrName, 1}, {"'a' ; A'#", api.ErrName, 1}, {"'a' ; A ';'", api.ErrName, 1},
		{"'\xff' ; A", api.ErrFault, 1}, {"'\xff# ; A", api.ErrLine, 1}, {"'\xff'#' ; A", api.ErrLine, 1}, {"'\xff\xff'#' ; A", api.ErrRune, 1}, {"'\xe2\x82' ; A", api.ErrRune, 1}, {"'\xe2\x82'#'", api.ErrLine, 1},
		{"'\u20ac'#' ; A", api.ErrLine, 1}, {"'\u20ac' ; A", 0, 0}, {"'\U0001f600';A", 0, 0}, {"'\u20ac;'A", api.ErrName, 1},
	})
}

func TestP4_1Names(t *testing.T) {
	long := "A" + strings.Repeat("b", 31)
	for _, name := range []string{"A", "z", "Z9", "a_", "A__9", "other", "OTHER", "Others", "Other_", "Other1", "other_Other", long, "a23456789_a23456789_a23456789_a2"} {
		d := made(t, "'a' ; "+name)
		if c, ok := d.Class(name); c != 1 || !ok || d.Names()[1] != name {
			t.Errorf("%q: %d, %v", name, c, ok)
		}
	}
	for _, name := range []string{"", "9letter", "0", "_", "_a", "a-b", "a b", "a\tb", "A ; B", "A;", ";", ";A", "Other", "a.b", "\u00e9", "A\u00e9", "A\xff", "\xff", "A'", "'A'", long + "b", strings.Repeat("x", 33), strings.Repeat("x", 1000), "A\x00", "A\r", "A,"} {
		refuse(t, []row{{"'a' ; " + name, api.ErrName, 1}, {"'a';" + name, api.ErrName, 1}, {"'a';\t" + name + "\t# x", api.ErrName, 1}, {";" + name, api.ErrName, 1}, {"'b' ; B\n\n'a' ; " + name + "\n", api.ErrName, 3}})
	}
}

func TestP4_1Runes(t *testing.T) {
	refuse(t, []row{
		{"'b'-'a' ; A", api.ErrEnds, 1}, {"U+0002-U+0001 ; A", api.ErrEnds, 1}, {"U+41 ; A", api.ErrRune, 1}, {"'a'- ; A", api.ErrRune, 1}, {"'a'- 'b' ; A", api.ErrRune, 1}, {"'a''b' ; A", api.ErrRune, 1}, {"x ; A", api.ErrRune, 1},
		{"U+110000 ; A", api.ErrHex, 1}, {"'\xff' ; A", api.ErrFault, 1}, {"'a' '\x80' ; A", api.ErrFault, 1}, {"\xff ; A", api.ErrRune, 1}, {"U+00e9 ; A", api.ErrRune, 1},
		{"'b'-'a' '\xff' ; A", api.ErrEnds, 1}, {"'\xff' 'b'-'a' ; A", api.ErrFault, 1}, {"U+110000 x ; A", api.ErrHex, 1}, // the first of them
		{"'a'-'\t' ; A", api.ErrEnds, 1}, {"U+001F-'\t' ; A", 0, 0}, // by what is read in the tab's place
	})
}

// names is a text of so many lines, each with a class of its own and one rune.
func names(n int) string {
	var b strings.Builder
	for i := range n {
		fmt.Fprintf(&b, "U+%04X ; N%d\n", 0x100+i, i)
	}
	return b.String()
}

func TestP4_1Many(t *testing.T) {
	d := made(t, names(63))
	if l := d.Names(); len(l) != 64 || l[63] != "N62" || d.Get(0x100+62) != 63 {
		t.Errorf("%q", l)
	}
	refuse(t, []row{
		{names(62), 0, 0}, {names(63), 0, 0}, {names(64), api.ErrMany, 64}, {names(70), api.ErrMany, 64},
		{names(63) + "'a' ; N62\n'b' ; N0", 0, 0}, // names that come again
		{names(63) + "'a' ; N62\n; More\n'b' ; N0", api.ErrMany, 65},
		{names(63) + "U+0100 ; More", api.ErrMany, 64},      // ahead of the clash
		{names(63) + "U+0100 ; N1", api.ErrClash, 64},       //
		{names(63) + "U+41 ; More", api.ErrRune, 64},        // behind the runes
		{names(63) + "'b'-'a' ; More", api.ErrEnds, 64},     //
		{names(63) + "'a' ; 9more", api.ErrName, 64},        //
		{names(63) + "'a' ; Other", api.ErrName, 64},        // which is no new one
		{names(63) + "# x\n\n \t\n; N5 # x\n", 0, 0},        //
		{strings.Repeat("'a' ; A\n", 200), 0, 0},            // how many lines has no part
		{strings.Repeat("; A\n; B\n", 100), 0, 0},           //
		{names(63) + "\n" + names(63) + "; X", 6, 63*2 + 2}, //
	})
}

func TestP4_1Clash(t *testing.T) {
	refuse(t, []row{
		{"'a' ; A\n'a'-'b' ; B", api.ErrClash, 2}, {"'a' ; A\n'a' ; B", api.ErrClash, 2}, {"'a'-'z' ; A\n'm' ; B", api.ErrClash, 2}, {"'m' ; A\n'a'-'z' ; B", api.ErrClash, 2}, {"'c'-'f' ; A\n'f'-'h' ; B", api.ErrClash, 2}, {"'c'-'f' ; A\n'a'-'c' ; B", api.ErrClash, 2},
		{"'c'-'f' ; A\n'g'-'h' ; B", 0, 0}, {"'c'-'f' ; A\n'a'-'b' ; B", 0, 0}, {"'c'-'f' ; A\n'a'-'b' 'g' ; B", 0, 0},
		{"'a' ; A\n'a' ; A", 0, 0}, {"'a'-'m' ; A\n'c'-'z' ; A", 0, 0}, {"'a'-'b' ; A\n'c'-'d' ; B\n'a'-'b' ; A\n'c' ; B", 0, 0}, // its own
		{"'a' 'a'-'c' 'b' ; A", 0, 0},                               // within one line
		{"'a' ; A\n'c' ; A\n'e' ; B\n'a'-'d' ; A", 0, 0},            //
		{"'a' ; A\n'c' ; A\n'e' ; B\n'a'-'e' ; A", api.ErrClash, 4}, // the last of those that it meets
		{"'a' ; B\n'c' ; A\n'e' ; A\n'a'-'e' ; A", api.ErrClash, 4}, // the first
		{"'a' ; A\n'c' ; B\n'e' ; A\n'a'-'e' ; A", api.ErrClash, 4}, // the one between
		{"'a' ; A\n'b' 'x' 'a' ; B", api.ErrClash, 2},               //
		{"U+0000 ; A\nU+0000-U+10FFFF ; B", api.ErrClash, 2},        //
		{"U+10FFFF ; A\nU+0000-U+10FFFF ; B", api.ErrClash, 2},      //
		{"U+0000-U+10FFFF ; A\nU+DFFF ; B", api.ErrClash, 2},        //
		{"U+D800 ; A\nU+D800-U+DFFF ; B", api.ErrClash, 2},          // surrogates
		{"U+D800-U+DBFF ; A\nU+DC00-U+DFFF ; B", 0, 0},              //
		{"U+0020 ; A\n'\t' ; B", api.ErrClash, 2},                   // by what is read in the tab's place
		{"U+0009 ; A\n'\t' ; B", 0, 0},                              //
		{"'a' ; A\n; B\n'a' ; B", api.ErrClash, 3},                  // an empty class takes part
	})
}

// TestP4_1First: of two faults the one that is named first counts in one line, the one that stands first in two.
func TestP4_1First(t *testing.T) {
	refuse(t, []row{
		{"'b'-'a' A", api.ErrLine, 1}, {"'b'-'a' ; 9", api.ErrName, 1}, {"U+110000 ; ", api.ErrName, 1}, {"'\xff' ; Other", api.ErrName, 1},
		{"'a' ; A\n'a' ; 9", api.ErrName, 2}, {"'a' ; A\n'a' 'b'-'a' ; B", api.ErrEnds, 2}, {"'a' ; A\n'a' x ; B", api.ErrRune, 2},
		{"'a' ; A\n'a' ; B\nx", api.ErrClash, 2}, {"x\n'a' ; A\n'a' ; B", api.ErrLine, 1}, {"'a' ; 9\nx", api.ErrName, 1}, {"x ; A\n'a' ; 9", api.ErrRune, 1},
		{"'b'-'a' ; A\nU+110000 ; A", api.ErrEnds, 1}, {"U+110000 ; A\n'b'-'a' ; A", api.ErrHex, 1}, {"\n\n'\xff' ; A\n'b'-'a' ; A", api.ErrFault, 3},
		{names(64) + "x", api.ErrMany, 64}, {"x\n" + names(64), api.ErrLine, 1}, {"'a' ; A\n'a' ; B\n'b' ; 9", api.ErrClash, 2}, {"'a' ; A\n'b' ; 9\n'a' ; B", api.ErrName, 2},
	})
}

// TestP4_1Any holds texts of any kind against the chapter.
func TestP4_1Any(t *testing.T) {
	parts := []string{
		"'a'", "'b'", "'a'-'c'", "'b'-'a'", "U+0061", "U+D800", "U+110000", "U+41", "'#'", "';'", "'''", "'\t'", "' '", "'\xff'", "'\u20ac'", "'\xe2\x82'", "''",
		"'", "#", ";", ";", ";", " ; ", " ; A", "; B\n", ";A\n", ";Other", "A", "B", "9", "_", "Other", " ", " ", " ", "\t", "\n", "\n", "\n", "\xff", "-", "x",
	}
	rnd := rand.New(rand.NewSource(3))
	seen := map[api.Errno]int{}
	for range 60000 {
		var b strings.Builder
		for range rnd.Intn(9) {
			b.WriteString(parts[rnd.Intn(len(parts))])
		}
		seen[check(t, b.String())]++
	}
	for range 4000 {
		seen[check(t, strewn(rnd))]++
	}
	for _, e := range []api.Errno{api.OK, api.ErrLine, api.ErrName, api.ErrClash, api.ErrEnds, api.ErrRune, api.ErrHex, api.ErrFault} {
		if seen[e] < 50 {
			t.Errorf("of error %d only %d", e, seen[e])
		}
	}
}

// TestP4_1Bytes goes over all short lines of the bytes that mean something.
func TestP4_1Bytes(t *testing.T) {
	const letters = "'#;A \t\n\xff"
	for _, head := range []string{"", "'a' ; ", "'", "';A\n"} {
		for _, tail := range []string{"", ";A", "' ; A"} {
			l := []string{""}
			for range 4 {
				var longer []string
				for _, s := range l {
					check(t, head+s+tail)
					for i := range len(letters) {
						longer = append(longer, s+letters[i:i+1])
					}
				}
				l = longer
			}
		}
	}
	for c := range 256 { // each byte ahead, within, and behind
		b := string([]byte{byte(c)})
		for _, s := range []string{b, b + "'a' ; A", "'a'" + b + "; A", "'" + b + "' ; A", "'a' ;" + b + "A", "'a' ; A" + b, "'a' ; A" + b + "B", "'a' " + b + " 'b' ; A"} {
			check(t, s)
		}
	}
}

func TestP4_1Examples(t *testing.T) {
	refuse(t, []row{
		{"'#' ; Hash", 0, 0}, {"'a' Letter", 42, 1}, {"'a' ; 9letter", 40, 1}, {"'a' ; A\n'a'-'b' ; B", 41, 2}, {"'b'-'a' ; A", 20, 1}, {"'a' ; Other", 40, 1}, {"; A", 0, 0},
	})
	if l := made(t, "'#' ; Hash").Names(); !slices.Equal(l, []string{"Other", "Hash"}) {
		t.Errorf("%q", l)
	}
	if d := made(t, "; A"); !slices.Equal(d.Names(), []string{"Other", "A"}) || len(d.Set(1)) != 0 || len(d.Ranged()) != 0 {
		t.Error("; A is no empty class")
	}
}
