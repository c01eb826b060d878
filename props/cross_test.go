package props_test

import (
	"fmt"
	"math/rand"
	"slices"
	"strings"
	"testing"

	"kerf/api"
	"kerf/props"
)

// checkCross holds what Cross makes of two texts against the chapter.
func checkCross(t *testing.T, a, b string) api.Errno {
	t.Helper()
	p, want := crossed(plainly(t, a), plainly(t, b))
	d, e := props.Cross(made(t, a), made(t, b))
	if e != want || (d == nil) != (e != api.OK) {
		t.Fatalf("Cross(%.80q, %.80q): %d; want %d", a, b, e, want)
	}
	if d != nil {
		same(t, a+" X "+b, d, p)
	}
	return e
}

func TestP4_5(t *testing.T) {
	for _, y := range []struct {
		a, b  string
		names []string
	}{
		{"'a'-'m' ; Low", "'a' 'e' ; Vowel", []string{"Other", "Low_Vowel", "Low_Other"}},
		{"", "", []string{"Other"}},
		{"'a' ; A", "", []string{"Other", "A_Other"}},
		{"", "'a' ; A", []string{"Other", "Other_A"}},
		{"'a' ; A", "'b' ; B", []string{"Other", "A_Other", "Other_B"}},
		{"'b' ; A", "'a' ; B", []string{"Other", "Other_B", "A_Other"}},
		{"'a' ; A", "'a' ; A", []string{"Other", "A_A"}},
		{"; A\n'a' ; B", "; A\n'a' ; C", []string{"Other", "B_C"}}, // what no rune has is left out
		{"; A", "; B", []string{"Other"}},
		{"'z' ; Z\n'y' ; Y\n'x' ; X", "", []string{"Other", "X_Other", "Y_Other", "Z_Other"}}, // by the least rune, not by the numbers
		{"U+0000-U+10FFFF ; All", "", []string{"Other", "All_Other"}},                         // no rune has 0, 0
		{"U+0000-U+10FFFF ; All", "U+0000-U+10FFFF ; Each", []string{"Other", "All_Each"}},
		{"U+0000-U+FFFF ; Lo", "U+10000-U+10FFFF ; Hi", []string{"Other", "Lo_Other", "Other_Hi"}},
		{"U+0000-U+FFFF ; Lo", "U+FFFF-U+10FFFF ; Hi", []string{"Other", "Lo_Other", "Lo_Hi", "Other_Hi"}},
		{"U+D800 ; S", "U+D800-U+DFFF ; T", []string{"Other", "S_T", "Other_T"}}, // surrogates
		{"U+10FFFF ; S", "U+10FFFF ; T", []string{"Other", "S_T"}},
		{"'a' 'c' ; A\n'b' ; B", "'a'-'b' ; C\n'c' ; D", []string{"Other", "A_C", "B_C", "A_D"}},
	} {
		d, e := props.Cross(made(t, y.a), made(t, y.b))
		if e != api.OK || !slices.Equal(d.Names(), y.names) {
			t.Errorf("Cross(%q, %q): %d, %q; want %q", y.a, y.b, e, d.Names(), y.names)
		}
		checkCross(t, y.a, y.b)
	}
	d, _ := props.Cross(made(t, "U+0000-U+10FFFF ; All"), made(t, ""))
	if d.Get(0) != 1 || len(d.Set(0)) != 0 {
		t.Errorf("where no rune has 0, 0: Get(0): %d, Set(0): %x", d.Get(0), d.Set(0))
	}
}

// strips is a text of n classes, each of one rune in the place of its number.
func strips(n int, name string) string {
	var b strings.Builder
	for i := range n {
		fmt.Fprintf(&b, "U+%04X ; %s%d\n", 0x100+i, name, i)
	}
	return b.String()
}

// grid are two texts that part w*h runes into as many pairs, of classes from 1 on.
func grid(w, h int) (string, string) {
	var a, b strings.Builder
	for x := range w {
		for y := range h {
			fmt.Fprintf(&a, "U+%04X ; X%d\n", 0x100+x*h+y, x)
			fmt.Fprintf(&b, "U+%04X ; Y%d\n", 0x100+x*h+y, y)
		}
	}
	return a.String(), b.String()
}

func TestP4_5Many(t *testing.T) {
	a, b := grid(9, 7) // 63 pairs, and Other
	if e := checkCross(t, a, b); e != api.OK {
		t.Errorf("64 pairs: %d", e)
	}
	if e := checkCross(t, a+"U+2000 ; X0", b); e != api.ErrMany {
		t.Errorf("65 pairs: %d", e)
	}
	if a, b := grid(8, 8); checkCross(t, a, b) != api.ErrMany {
		t.Error("8 by 8 pairs, and Other")
	}
	whole := "U+0000-U+00FF U+0140-U+10FFFF " // so that no rune has 0, 0; Other counts all the same
	a, b = grid(8, 8)
	if e := checkCross(t, whole+"; X0\n"+a, whole+"; Y0\n"+b); e != api.ErrMany {
		t.Errorf("64 pairs, and Other which none has: %d", e)
	}
	a, b = grid(9, 7)
	whole = "U+0000-U+00FF U+013F-U+10FFFF "
	if e := checkCross(t, whole+"; X0\n"+a, whole+"; Y0\n"+b); e != api.OK {
		t.Errorf("63 pairs, and Other which none has: %d", e)
	}
	if e := checkCross(t, strips(63, "A"), strips(63, "B")); e != api.OK {
		t.Errorf("63 classes by 63, 64 pairs: %d", e)
	}
	if e := checkCross(t, strips(63, "A"), ""); e != api.OK {
		t.Errorf("63 classes by none: %d", e)
	}
	if e := checkCross(t, strips(63, "A"), "'a' ; B"); e != api.ErrMany {
		t.Errorf("63 classes, and one more: %d", e)
	}
}

func TestP4_5Refused(t *testing.T) {
	n := func(c string, n int) string { return strings.Repeat(c, n) }
	for _, y := range []struct {
		a, b string
		e    api.Errno
	}{
		{"'a' ; ABCDEFGHIJKLMNOPQRSTABCDEFGH", "'a' ; Vowel", api.ErrName},
		{"'a' ; " + n("A", 26), "'a' ; Vowel", api.OK}, // 32 bytes
		{"'a' ; " + n("A", 27), "'a' ; Vowel", api.ErrName},
		{"'a' ; " + n("A", 26), "", api.OK},
		{"'a' ; " + n("A", 27), "", api.ErrName},
		{"", "'a' ; " + n("A", 26), api.OK},
		{"", "'a' ; " + n("A", 27), api.ErrName},
		{"'a' ; " + n("A", 32), "'a' ; " + n("B", 32), api.ErrName},
		{"; " + n("A", 32), "; " + n("B", 32), api.OK}, // names of classes that no rune has
		{"; " + n("A", 32) + "\n'a' ; A", "'b' ; B", api.OK},
		{"'a' ; A\n'b' ; A_B", "'a' ; B_C\n'b' ; C", api.ErrThere},
		{"'a' ; A\n'c' ; A_B", "'a' ; B_C\n'b' ; C", api.OK}, // the two would be alike, but no rune has one
		{"'a' ; A\n'b' ; A_Other", "'b' ; B\n'a' ; Other_B", api.ErrThere},
		{"'a' ; A\n'b' ; A_B\n'c' ; " + n("A", 32), "'a' ; B_C\n'b' ; C", api.ErrName},       // ahead of ErrThere
		{"'a' ; A\n'b' ; A_B\n'0' ; " + n("A", 32), "'a' ; B_C\n'b' ; C", api.ErrName},       //
		{strips(63, "A"), "U+0100 ; " + n("B", 32) + "\n'a' ; B", api.ErrMany},               // ahead of ErrName
		{strips(61, "A") + "'a' ; A\n'b' ; A_B", "'a' ; B_C\n'b' ; C\n'c' ; D", api.ErrMany}, // ahead of ErrThere
		{strips(61, "A") + "'a' ; A\n'b' ; A_B", "'a' ; B_C\n'b' ; C", api.ErrThere},         //
	} {
		if e := checkCross(t, y.a, y.b); e != y.e {
			t.Errorf("Cross(%.80q, %.80q): %d; want %d", y.a, y.b, e, y.e)
		}
	}
}

func TestP4_5Nil(t *testing.T) {
	d := made(t, letters)
	for _, y := range [][2]*props.Db{{nil, nil}, {d, nil}, {nil, d}} {
		if x, e := props.Cross(y[0], y[1]); x != nil || e != api.OK {
			t.Errorf("Cross with nil: %v, %d", x != nil, e)
		}
	}
}

// shuffled is a text of many classes, whose names are made of few letters, so that crossed ones are often alike, or too long.
func shuffled(rnd *rand.Rand) string {
	var b strings.Builder
	for i := range rnd.Intn(12) {
		name := []string{"A", "A_A", "A_A_A", "B", "B_A", "A_B", "A_Other", "Other_A", "C", "D", "E", "F", "G", strings.Repeat("H", 29)}[rnd.Intn(14)]
		fmt.Fprintf(&b, "U+%04X-U+%04X ; %s\n", 20*i+rnd.Intn(3), 20*i+5+rnd.Intn(15), name)
		if rnd.Intn(3) > 0 {
			fmt.Fprintf(&b, "U+%04X ; %s\n", 1000+20*rnd.Intn(400)+i, name)
		}
	}
	return b.String()
}

func TestP4_5Any(t *testing.T) {
	rnd := rand.New(rand.NewSource(6))
	l := good()
	seen := map[api.Errno]int{}
	for range 1500 {
		seen[checkCross(t, l[rnd.Intn(len(l))], l[rnd.Intn(len(l))])]++
		seen[checkCross(t, shuffled(rnd), shuffled(rnd))]++
	}
	for _, w := range []int{7, 8, 9} { // about as many pairs as there may be
		for _, h := range []int{6, 7, 8} {
			a, b := grid(w, h)
			seen[checkCross(t, a, b)]++
			seen[checkCross(t, a, b+"U+2000-U+2001 ; Y0")]++
			seen[checkCross(t, a+"U+2001-U+2002 ; X0", b+"U+2000-U+2001 ; Y0")]++
		}
	}
	for _, e := range []api.Errno{api.OK, api.ErrMany, api.ErrName, api.ErrThere} {
		if seen[e] < 5 {
			t.Errorf("of error %d only %d", e, seen[e])
		}
	}
}

// TestP4_5Again crosses what was crossed, and leaves what it is given as it was.
func TestP4_5Again(t *testing.T) {
	a, b := made(t, "'a'-'m' ; Low\n; None"), made(t, "'a' 'e' ; Vowel")
	ab, _ := props.Cross(a, b)
	abb, e := props.Cross(ab, b)
	if e != api.OK || !slices.Equal(abb.Names(), []string{"Other", "Low_Vowel_Vowel", "Low_Other_Other"}) || abb.Text() != "U+0061 U+0065 ; Low_Vowel_Vowel\nU+0062-U+0064 U+0066-U+006D ; Low_Other_Other\n" {
		t.Errorf("%d, %q", e, abb.Text())
	}
	if a.Text() != "U+0061-U+006D ; Low\n; None\n" || b.Text() != "U+0061 U+0065 ; Vowel\n" || ab.Text() != "U+0061 U+0065 ; Low_Vowel\nU+0062-U+0064 U+0066-U+006D ; Low_Other\n" {
		t.Errorf("%q, %q, %q", a.Text(), b.Text(), ab.Text())
	}
	if c, ok := ab.Class("Other"); c != 0 || !ok {
		t.Errorf("Class(Other): %d, %v", c, ok)
	}
	if _, ok := ab.Class("Low"); ok {
		t.Error("Low is a class of what was crossed")
	}
	if l := ab.Of("ab\xff"); !slices.Equal(l, []int{1, 2, 0}) {
		t.Errorf("Of: %v", l)
	}
	aa, e := props.Cross(a, a)
	if e != api.OK || !slices.Equal(aa.Names(), []string{"Other", "Low_Low"}) {
		t.Errorf("with itself: %d, %q", e, aa.Names())
	}
	apart(t, "crossed", ab)
	if d := made(t, ab.Text()); !alike(d, ab) {
		t.Errorf("there and back: %q", d.Text())
	}
}

func TestP4_9(t *testing.T) {
	l := good()
	rnd := rand.New(rand.NewSource(7))
	n := 0
	for range 16 {
		x, y := l[rnd.Intn(len(l))], l[rnd.Intn(len(l))]
		a, b := made(t, x), made(t, y)
		d, e := props.Cross(a, b)
		if e != api.OK {
			continue
		}
		n++
		var pair [64]api.Two  // of each class
		var class [64][64]int // of each pair
		for c := range class {
			for k := range class[c] {
				class[c][k] = -1
			}
			pair[c].A = -1
		}
		for r := rune(0); r <= 0x10ffff; r++ {
			c, two := d.Get(r), api.Two{A: a.Get(r), B: b.Get(r)}
			if pair[c].A < 0 {
				pair[c] = two
			}
			if class[two.A][two.B] < 0 {
				class[two.A][two.B] = c
			}
			if pair[c] != two || class[two.A][two.B] != c {
				t.Fatalf("Cross(%.60q, %.60q): Get(%x): %d, of the pair %v; that pair had %d, that class %v", x, y, r, c, two, class[two.A][two.B], pair[c])
			}
		}
	}
	if n < 10 {
		t.Errorf("only %d crossed", n)
	}
}
