package line_test

import (
	"math"
	"math/rand"
	"slices"
	"strings"
	"testing"

	"kerf/api"
	"kerf/line"
)

// may and must are chances at these places.
func may(at int) api.Chance  { return api.Chance{At: at} }
func must(at int) api.Chance { return api.Chance{At: at, Must: true} }

// TestP14_1Examples are those of the chapter, and of the rules one by one.
func TestP14_1Examples(t *testing.T) {
	for s, want := range map[string][]api.Chance{
		"a b\nc":                 {may(2), must(4), must(5)},
		"a  b":                   {may(3), must(4)},
		"$5 (x), y-z\u00a0w":     {may(3), may(8), may(10), must(14)},
		"\r\n\r":                 {must(2), must(3)},
		"\u4e00\u4e8c":           {may(3), must(6)},
		"a\u200b b":              {may(5), must(6)},
		"":                       nil,
		"a":                      {must(1)},
		"\xff":                   {must(1)},
		"\n":                     {must(1)},
		"\r":                     {must(1)},
		"\r\n":                   {must(2)},
		"\n\r":                   {must(1), must(2)},
		"\u2028x":                {must(3), must(4)},
		"a\u0085\v\fb":           {must(3), must(4), must(5), must(6)},
		"\u0301\u00a0":           {must(4)},
		"a \u0301\u00a0b":        {may(2), may(4), must(7)},
		"\n\u0301\u00a0b":        {must(1), must(6)},
		"-\u00a0b":               {may(1), must(4)},
		"-\u0301\u00a0b":         {may(3), must(6)},
		"(\u0301  a":             {must(6)},
		"( \u0301a":              {may(4), must(5)},
		"\u200b  )":              {may(5), must(6)},
		"a \u200b\u0301":         {may(5), must(7)},
		"\"  (":                  {must(4)},
		")  \u3005":              {must(6)},
		"\u2014 \u2014\u4e00":    {may(7), must(10)},
		"1\u0301,\u0301)\u0301%": {must(10)},
		"1,,%":                   {may(3), must(4)},
		"1),%":                   {may(3), must(4)},
		"$(1":                    {must(3)},
		"$(\u03011":              {may(1), must(5)},
		"$(a":                    {may(1), must(3)},
		"%-1":                    {must(3)},
		"\U0001f1e6\U0001f1e7\U0001f1e8\U0001f1e9":       {may(8), must(16)},
		"\U0001f1e6\u0301\U0001f1e7\U0001f1e8":           {may(10), must(14)},
		"\u0301\U0001f1e6\U0001f1e7\U0001f1e8\U0001f1e9": {may(2), may(10), must(18)},
	} {
		if got := line.Chances(s); !slices.Equal(got, want) {
			t.Errorf("%q: %v; want %v", s, got, want)
		}
	}
}

// TestP14_1Rows has every row of up to three classes.
func TestP14_1Rows(t *testing.T) {
	b := plain(t)
	for long := range 4 {
		for s := range rows(long, all()...) {
			held(t, b, s)
		}
	}
}

// TestP14_1Between has, between every two classes, rows of blanks, marks and joiners in every order.
func TestP14_1Between(t *testing.T) {
	b := plain(t)
	for long := 2; long <= 3; long++ {
		classes := []int{sp, cm, zw, wj, gl}
		if long == 3 {
			classes = []int{sp, cm, zw}
		}
		for between := range rows(long, classes...) {
			for s := range rows(2, all()...) {
				first := edges(s)[1]
				text := s[:first] + between + s[first:]
				if got, want := line.Chances(text), plainChances(b, text); !slices.Equal(got, want) {
					t.Fatalf("%q: %v; want %v", text, got, want)
				}
			}
		}
	}
}

// TestP14_1Further has longer rows of the classes that look further ahead or back, and those that stand among them.
func TestP14_1Further(t *testing.T) {
	b := plain(t)
	for _, x := range []struct {
		long    int
		classes []int
	}{
		{6, []int{zw, sp, cm, cl}}, {5, []int{zw, sp, cm, wj, other}}, {6, []int{op, cm, sp, other}}, {5, []int{op, cm, sp, zw, gl}}, {6, []int{qu, cm, sp, op}}, {5, []int{cl, cp, cm, sp, ns}}, {6, []int{dash, cm, sp}},
		{5, []int{gl, cm, sp, ba, hy}}, {5, []int{gl, cm, wj, other, zw}}, {5, []int{gl, cm, bk, cr, lf}}, {6, []int{gl, cm, sp, lf}},
		{7, []int{nu, is, cm, po}}, {6, []int{nu, cl, cm, pr}}, {5, []int{nu, is, cl, cm, po}}, {5, []int{nu, sy, cp, cm, pr}}, {4, []int{nu, is, sy, cl, cp, po, pr, cm}}, {5, []int{po, pr, op, nu, cm}}, {5, []int{pr, op, hy, nu, id}},
		{9, []int{ri, cm}}, {6, []int{ri, cm, sp}}, {6, []int{ri, cm, zw}}, {6, []int{ri, cm, lf}}, {6, []int{ri, wj, cm}}, {6, []int{ri, other, cm}}, {6, []int{ri, gl, sp}},
		{5, []int{other, nu, op, cp, is}}, {5, []int{cr, lf, bk, sp, cm}}, {5, []int{other, hy, nu, cm, sp}},
	} {
		for long := 4; long <= x.long; long++ {
			for s := range rows(long, x.classes...) {
				held(t, b, s)
			}
		}
	}
	for s := range rows(3, nu, is, sy, cl, cp, op, other) {
		places := edges(s)
		for _, end := range []string{"%", "$", "(7", "\u0301%", "\u0301$"} {
			held(t, b, s[:places[1]]+"\u0301"+s[places[1]:places[2]]+"\u0301\u0301"+s[places[2]:]+end)
		}
	}
}

// TestP14_1Any has texts of any runes and bytes.
func TestP14_1Any(t *testing.T) {
	b := plain(t)
	r := rand.New(rand.NewSource(141))
	for range 8000 {
		held(t, b, someText(r, 14))
	}
	for range 4000 {
		bytes := make([]byte, r.Intn(12))
		for i := range bytes {
			bytes[i] = "a1,$( \r\n\x80\xcc\x81\xe2\x80\x8b\xa8\xff\xc2\xa0\xf0\x9f\x87\xa6"[r.Intn(22)]
		}
		held(t, b, string(bytes))
	}
}

// TestP14_1Faults has bytes that belong to no rune at both ends, between, and ahead of blanks and marks: each is of the class Other.
func TestP14_1Faults(t *testing.T) {
	b := plain(t)
	for _, fault := range faults {
		for _, s := range byClass {
			for _, text := range []string{fault, fault + s, s + fault, s + fault + s, fault + s + fault, fault + fault, fault + " " + s, fault + "\u0301" + s, s + " " + fault, s + "\u0301" + fault, s + " \u0301" + fault + " \u0301" + s, fault + "  \u0301" + fault} {
				held(t, b, text)
			}
		}
		n := len(fault)
		if got := line.Chances(fault + "a7 " + fault); !slices.Equal(got, []api.Chance{may(n + 3), must(2*n + 3)}) {
			t.Errorf("%q: %v", fault, got)
		}
	}
}

// TestP14_1Must has the end of the text, and every end of a line at every place of texts.
func TestP14_1Must(t *testing.T) {
	b := plain(t)
	ends := map[string]int{"\r": 1, "\n": 1, "\v": 1, "\f": 1, "\u0085": 2, "\u2028": 3, "\u2029": 3, "\r\n": 2}
	for _, s := range []string{"", "a", "a b", "(a", "\u00a0", "a\u2060b", "\u0301", "\xff \xc3", "$(7", "\U0001f1e6\U0001f1e6", "\u200b )", "-\u0301\u00a0"} {
		for end, width := range ends {
			for _, at := range edges(s) {
				text := s[:at] + end + s[at:]
				if line.Kind(text, at+width) != api.LineMust || line.Kind(text, len(text)) != api.LineMust {
					t.Errorf("%q: no end of a line at %d, %d", text, at+width, len(text))
				}
				for _, x := range line.Chances(s[:at]) {
					if x.At < at && line.Kind(text, x.At) != api.LineMay {
						t.Errorf("%q: %d at %d", text, line.Kind(text, x.At), x.At)
					}
				}
				if at > 0 && line.Kind(text, at) != api.LineNot {
					t.Errorf("%q: a chance ahead of the end of a line, at %d", text, at)
				}
				held(t, b, text)
			}
		}
	}
	if line.Kind("\r\n", 1) != api.LineNot || line.Kind("\r\r\n", 1) != api.LineMust || line.Kind("\n\r", 1) != api.LineMust || line.Kind("\r \n", 1) != api.LineMust {
		t.Errorf("Cr and Lf")
	}
}

// TestP14_1New is whether lists that are answered share nothing.
func TestP14_1New(t *testing.T) {
	const s = "a b\nc"
	want := []api.Chance{may(2), must(4), must(5)}
	x, y := line.Chances(s), line.Chances(s)
	clear(x[:cap(x)])
	if !slices.Equal(y, want) || !slices.Equal(line.Chances(s), want) || !slices.Equal(told(s), want) {
		t.Errorf("%v, %v", y, line.Chances(s))
	}
}

// TestP14_1Long has texts that no one would wait for, if what stands ahead or behind were looked through at each place.
func TestP14_1Long(t *testing.T) {
	const n = 200001
	rep := func(s string) string { return strings.Repeat(s, n) }
	for name, x := range map[string]struct {
		s     string
		count int
	}{
		"letters":                {rep("a"), 1},
		"blanks":                 {rep(" "), 1},
		"marks":                  {rep("\u0301"), 1},
		"blanks and marks":       {rep(" \u0301"), n + 1},
		"an open one, blanks":    {"(" + rep("\u0301") + rep(" ") + "a", 1},
		"a Zw, blanks":           {"\u200b" + rep(" ") + ")", 2},
		"a number, marks":        {"1" + rep("\u0301") + "," + rep("\u0301") + ")" + rep("\u0301") + "%", 1},
		"flag letters":           {rep("\U0001f1e6"), (n + 1) / 2},
		"flag letters and marks": {rep("\U0001f1e6\u0301"), (n + 1) / 2},
		"a flag letter, marks":   {"\U0001f1e6" + rep("\u0301") + "\U0001f1e6" + rep("\u0301") + "\U0001f1e6", 2},
		"ideographs":             {rep("\u4e00"), n},
		"line ends":              {rep("\n"), n},
		"dashes":                 {rep("\u2014 "), 1},
		"glue":                   {rep("\U0001f1e6\u00a0"), 1},
		"prices":                 {rep("$(1"), 1},
		"faults":                 {rep("\xf0\x9f\x87"), 1},
		"texts":                  {rep("(It was $3.50, or so.)\r\n"), 5 * n},
	} {
		chances := line.Chances(x.s)
		if len(chances) != x.count {
			t.Errorf("%s: %d chances; want %d", name, len(chances), x.count)
			continue
		}
		must := 0
		for range line.Lines(x.s) {
			must++
		}
		for _, c := range chances {
			if c.Must {
				must--
			}
		}
		if must != 0 {
			t.Errorf("%s: the lines are %d more than the chances that must be taken", name, must)
		}
		// A row of flag letters is counted anew at each call.
		if !strings.HasPrefix(name, "flag letters") {
			walked(t, name, x.s, chances)
		}
	}
}

// walked is whether Next and Prev go from one of the chances of s to the next, and back.
func walked(t *testing.T, name, s string, chances []api.Chance) {
	t.Helper()
	at := 0
	for _, want := range chances {
		next, ok := line.Next(s, at)
		if !ok || next != want {
			t.Fatalf("%s: Next at %d: %v; want %v", name, at, next, want)
		}
		at = next.At
	}
	at = len(s) + 1
	for _, want := range slices.Backward(chances) {
		prev, ok := line.Prev(s, at)
		if !ok || prev != want {
			t.Fatalf("%s: Prev at %d: %v; want %v", name, at, prev, want)
		}
		at = prev.At
	}
}

// TestP14_2Places has every place of a text, by hand.
func TestP14_2Places(t *testing.T) {
	if api.LineNot != 0 || api.LineMay != 1 || api.LineMust != 2 {
		t.Fatalf("%d, %d, %d", api.LineNot, api.LineMay, api.LineMust)
	}
	const s = "\u00e9 \xff\r\nb\u4e00" // chances at 3, 6, 7, 10
	none := api.Chance{}
	for _, x := range []struct {
		at, kind   int
		next, prev api.Chance
	}{
		{math.MinInt, api.LineNot, may(3), none},
		{-1, api.LineNot, may(3), none},
		{0, api.LineNot, may(3), none},
		{1, api.LineNot, may(3), none}, // within a rune
		{2, api.LineNot, may(3), none},
		{3, api.LineMay, must(6), none},
		{4, api.LineNot, must(6), may(3)},
		{5, api.LineNot, must(6), may(3)},
		{6, api.LineMust, may(7), may(3)},
		{7, api.LineMay, must(10), must(6)},
		{8, api.LineNot, must(10), may(7)}, // within a rune
		{9, api.LineNot, must(10), may(7)},
		{10, api.LineMust, none, may(7)},
		{11, api.LineNot, none, must(10)},
		{math.MaxInt, api.LineNot, none, must(10)},
	} {
		next, isNext := line.Next(s, x.at)
		prev, isPrev := line.Prev(s, x.at)
		if kind := line.Kind(s, x.at); kind != x.kind || next != x.next || prev != x.prev || isNext != (x.next != none) || isPrev != (x.prev != none) {
			t.Errorf("%v: %d, %v, %v, %v, %v", x, kind, next, isNext, prev, isPrev)
		}
	}
	for _, at := range around("") {
		next, isNext := line.Next("", at)
		prev, isPrev := line.Prev("", at)
		if line.Kind("", at) != api.LineNot || next != none || isNext || prev != none || isPrev {
			t.Errorf("of nothing, at %d", at)
		}
	}
	for at, want := range []int{api.LineNot, api.LineNot, api.LineMay, api.LineMust, api.LineNot} {
		if got := line.Kind("a b", at); got != want {
			t.Errorf("Kind of \"a b\" at %d: %d", at, got)
		}
	}
}

// left has what is gone over left at each that is told, gone over again, and nested.
func left[A, B comparable](t *testing.T, seq func(func(A, B) bool), first []A, second []B) {
	t.Helper()
	whole := func() {
		t.Helper()
		n := 0
		for a, b := range seq {
			if n >= len(first) || a != first[n] || b != second[n] {
				t.Errorf("number %d: %v, %v", n, a, b)
			}
			n++
		}
		if n != len(first) {
			t.Errorf("%d told; want %d", n, len(first))
		}
	}
	whole()
	for stop := range first {
		n := 0
		seq(func(a A, b B) bool {
			if a != first[n] || b != second[n] {
				t.Errorf("left at %d: number %d: %v, %v", stop, n, a, b)
			}
			n++
			return n <= stop
		})
		if n != stop+1 {
			t.Errorf("left at %d: %d told", stop, n)
		}
		whole()
	}
	n := 0
	for a, b := range seq {
		for x, y := range seq {
			whole()
			if x == a && y == b {
				break
			}
		}
		if a != first[n] || b != second[n] {
			t.Errorf("nested: number %d: %v, %v", n, a, b)
		}
		n++
	}
	if n != len(first) {
		t.Errorf("nested: %d told", n)
	}
}

// TestP14_2Left has Each left at every chance, gone over again, and nested.
func TestP14_2Left(t *testing.T) {
	left(t, line.Each("\xff a-b\r\n\n\u4e00\u4e8c\u2028(c"), []int{2, 4, 7, 8, 11, 17, 19}, []bool{false, false, true, true, false, true, true})
	left(t, line.Each("a"), []int{1}, []bool{true})
	left(t, line.Each(""), nil, nil)
	if line.Each("") == nil {
		t.Errorf("nil")
	}
}

// TestP14_3Left has Lines left at every line, gone over again, and nested.
func TestP14_3Left(t *testing.T) {
	left(t, line.Lines("\xff a-b\r\n\n\u4e00\u4e8c\u2028(c"), []int{0, 7, 8, 17}, []int{7, 8, 17, 19})
	left(t, line.Lines("a b"), []int{0}, []int{3})
	left(t, line.Lines(""), nil, nil)
	if line.Lines("") == nil {
		t.Errorf("nil")
	}
}

// TestP14_3Lines has texts that end with each end of a line, with several, with none.
func TestP14_3Lines(t *testing.T) {
	for s, want := range map[string][]pair{
		"a\n\nb": {{0, 2}, {2, 3}, {3, 4}}, "": nil, "a": {{0, 1}}, "a b c": {{0, 5}}, "a\n": {{0, 2}}, "a\r": {{0, 2}}, "a\r\n": {{0, 3}}, "a\u2029": {{0, 4}}, "a\v": {{0, 2}}, "a\f": {{0, 2}}, "a\u0085": {{0, 3}},
		"\n": {{0, 1}}, "\n\n": {{0, 1}, {1, 2}}, "\r\n\r\n": {{0, 2}, {2, 4}}, "\n\r\n\r": {{0, 1}, {1, 3}, {3, 4}}, "a\u2028\n\r": {{0, 4}, {4, 5}, {5, 6}}, "\r\r\n": {{0, 1}, {1, 3}},
		"a\n ": {{0, 2}, {2, 3}}, "a\n\u0301": {{0, 2}, {2, 4}}, "a\n\u2060": {{0, 2}, {2, 5}}, "(\n)": {{0, 2}, {2, 3}}, "\xff\n\xc3": {{0, 2}, {2, 3}}, "\xff\xff\r": {{0, 3}}, "\u200b\n\u200b": {{0, 4}, {4, 7}},
	} {
		if got := lines(s); !slices.Equal(got, want) {
			t.Errorf("%q: %v; want %v", s, got, want)
		}
	}
}

// TestP14_4Trail has the chapter's examples, and others by hand.
func TestP14_4Trail(t *testing.T) {
	for s, want := range map[string]int{
		"ab \n": 2, " ": 0, "": 0, "  ": 0, "\r\n": 0, " \n\v\f\r \u0085\u2028\u2029\u200b": 0, "\u200b": 0, "a": 1, "a\u200b": 1, "a \u200b ": 1, "a\u200b\u200b\r\n": 1, " a": 2, " a ": 2, "a b ": 3, "\na\n": 2,
		"a\t": 2, "a\u00a0": 3, "a\u00a0 ": 3, "a\u2060 ": 4, "a\u00ad ": 3, "a \u0301": 4, "a \u0301 ": 4, "a\u3000": 4, "\xff": 1, "\xff\r\n": 1, "a \xff": 3, "a \xff ": 3, "a \xe2\x80": 4, "a \xe2\x80 ": 4, "\x8b": 1, " \x80\x8b": 3, "\u00e9 ": 2, "\u4e00\u2028": 3, "\U0001f600\u200b": 4,
	} {
		if got := line.Trail(s); got != want {
			t.Errorf("%q: %d; want %d", s, got, want)
		}
	}
	b := plain(t)
	for long := range 7 {
		for s := range rows(long, sp, zw, lf, other) {
			if got, want := line.Trail(s), plainTrail(b, s); got != want {
				t.Fatalf("%q: %d; want %d", s, got, want)
			}
		}
	}
}
