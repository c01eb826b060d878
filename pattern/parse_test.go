package pattern_test

import (
	"math/rand"
	"slices"
	"strconv"
	"strings"
	"testing"

	"kerf/api"
	"kerf/pattern"
)

func TestName(t *testing.T) {
	for _, s := range []string{"A", "z", "a", "Z", "A_", "a0", "Other_9", strings.Repeat("x", api.MaxName), "A" + strings.Repeat("_", 31)} {
		if !pattern.Name(s) {
			t.Errorf("%q is a name", s)
		}
	}
	for _, s := range []string{"", "_", "_A", "0", "9a", "A-", "A ", " A", "A\n", "A.", "é", "Aé", "A\x80", "\xffA", "A\x00", "@", "[", "`", "{", "A@", "A[", "A`", "A{", "A/", "A:", strings.Repeat("x", api.MaxName+1), strings.Repeat("x", 100000)} {
		if pattern.Name(s) {
			t.Errorf("%q is no name", s)
		}
	}
	for b := range 256 {
		s := string([]byte{byte(b)})
		if got := pattern.Name(s); got != plainName.MatchString(s) {
			t.Errorf("%q: %v", s, got)
		}
		if got := pattern.Name("Q" + s + "q"); got != plainName.MatchString("Q"+s+"q") {
			t.Errorf("%q: %v", "Q"+s+"q", got)
		}
	}
}

func TestP5_1Parse(t *testing.T) {
	for s, want := range map[string]api.Pattern{
		"":                  empty,
		" ":                 empty,
		" \t\t ":            empty,
		"()":                empty,
		" ( ( ) ) ":         empty,
		"A":                 set(0),
		"\tC ":              set(2),
		"((B))":             set(1),
		".":                 set(0, 1, 2),
		"[]":                set(),
		"[^]":               set(0, 1, 2),
		"[B]":               set(1),
		"[C A]":             set(0, 2),
		"[C A C\tA]":        set(0, 2),
		"[^C]":              set(0, 1),
		"[ ^ B B ]":         set(0, 2),
		"[\t^]":             set(0, 1, 2),
		"[^A B C]":          set(),
		"A B* | [^C]":       or(then(set(0), many(set(1))), set(0, 1)),
		"A |":               or(set(0), empty),
		"| A":               or(empty, set(0)),
		"|":                 or(empty, empty),
		"A||B":              or(set(0), empty, set(1)),
		"()*":               many(empty),
		"A*":                many(set(0)),
		"A +":               some(set(0)),
		"A\t?":              may(set(0)),
		"A*+?":              may(some(many(set(0)))),
		"A ? * +":           some(many(may(set(0)))),
		"A B C":             then(set(0), set(1), set(2)),
		"A.C":               then(set(0), set(0, 1, 2), set(2)),
		"A[B]C":             then(set(0), set(1), set(2)),
		"A(B)C":             then(set(0), set(1), set(2)),
		"(A B) C":           then(then(set(0), set(1)), set(2)),
		"A (B C)":           then(set(0), then(set(1), set(2))),
		"(A|B)|C":           or(or(set(0), set(1)), set(2)),
		"(A|B) C|C":         or(then(or(set(0), set(1)), set(2)), set(2)),
		"(A B)*":            many(then(set(0), set(1))),
		"A B*":              then(set(0), many(set(1))),
		"(A|B)+ C?":         then(some(or(set(0), set(1))), may(set(2))),
		"()()":              then(empty, empty),
		"(|)":               or(empty, empty),
		"A\t|\tB":           or(set(0), set(1)),
		"(((A) B) | C)* ()": then(many(or(then(set(0), set(1)), set(2))), empty),
	} {
		if p, e, at := pattern.Parse(s, abc); e != api.OK || at != 0 || !same(p, want) {
			t.Errorf("%q: %v %d %d; want %v", s, p, e, at, want)
		}
	}
	for s, want := range map[string]api.Pattern{".": set(), "[^]": set(), "[]": set(), "": empty} {
		if p, e, at := pattern.Parse(s, nil); e != api.OK || at != 0 || !same(p, want) {
			t.Errorf("without names %q: %v %d %d; want %v", s, p, e, at, want)
		}
	}
	// A name is as long as it can be.
	for s, want := range map[string]api.Pattern{"ab": set(1), "a b": then(set(0), set(2)), "a_": set(3), "a1b": set(4), "[ab a]": set(0, 1)} {
		if p, e, at := pattern.Parse(s, []string{"a", "ab", "b", "a_", "a1b"}); e != api.OK || at != 0 || !same(p, want) {
			t.Errorf("%q: %v %d %d; want %v", s, p, e, at, want)
		}
	}
}

func TestP5_1Faults(t *testing.T) {
	long := strings.Repeat("N", api.MaxName+1)
	for _, x := range []struct {
		s  string
		e  api.Errno
		at int
	}{
		{"A )", api.ErrSyntax, 2}, {"( A", api.ErrShort, 3}, {"D", api.ErrClass, 0}, {"* A", api.ErrSyntax, 0}, {"[ A", api.ErrShort, 3}, {"[A*]", api.ErrSyntax, 2},
		// An operator with nothing ahead of it.
		{"*", api.ErrSyntax, 0}, {"+", api.ErrSyntax, 0}, {"  ?", api.ErrSyntax, 2}, {"(*)", api.ErrSyntax, 1}, {"A|*", api.ErrSyntax, 2}, {"A ( +", api.ErrSyntax, 4}, {"[?]", api.ErrSyntax, 1}, {"|?", api.ErrSyntax, 1}, {"(A|+", api.ErrSyntax, 3},
		// A ^ elsewhere.
		{"^", api.ErrSyntax, 0}, {"A^", api.ErrSyntax, 1}, {"[A^]", api.ErrSyntax, 2}, {"[^^]", api.ErrSyntax, 2}, {"[ ^ ^", api.ErrSyntax, 4}, {"[A ^", api.ErrSyntax, 3}, {"(^A)", api.ErrSyntax, 1},
		// Not closed, and closing nothing.
		{"(", api.ErrShort, 1}, {"[", api.ErrShort, 1}, {"[^", api.ErrShort, 2}, {"( \t", api.ErrShort, 3}, {"((A)", api.ErrShort, 4}, {"(A|", api.ErrShort, 3}, {"A [B  ", api.ErrShort, 6}, {"([A)", api.ErrSyntax, 3}, {"(A]", api.ErrSyntax, 2},
		{")", api.ErrSyntax, 0}, {"]", api.ErrSyntax, 0}, {"()) A", api.ErrSyntax, 2}, {"[A]]", api.ErrSyntax, 3}, {"(A))*", api.ErrSyntax, 3}, {"A | )", api.ErrSyntax, 4},
		// What else may not stand in a set.
		{"[.]", api.ErrSyntax, 1}, {"[A|B]", api.ErrSyntax, 2}, {"[(A)]", api.ErrSyntax, 1}, {"[[A]]", api.ErrSyntax, 1}, {"[A)", api.ErrSyntax, 2},
		// Bytes that stand nowhere.
		{"\x80", api.ErrSyntax, 0}, {"A\xc3\xa9", api.ErrSyntax, 1}, {"[\xff]", api.ErrSyntax, 1}, {"A \x00", api.ErrSyntax, 2}, {"A\n", api.ErrSyntax, 1}, {"A\r", api.ErrSyntax, 1}, {"\v", api.ErrSyntax, 0}, {"A B;", api.ErrSyntax, 3}, {"9", api.ErrSyntax, 0}, {"_A", api.ErrSyntax, 0}, {"A 1", api.ErrSyntax, 2}, {"(_", api.ErrSyntax, 1}, {"[9A]", api.ErrSyntax, 1}, {"A-B", api.ErrSyntax, 1},
		// Names.
		{"a", api.ErrClass, 0}, {"A AB", api.ErrClass, 2}, {"A9", api.ErrClass, 0}, {"A_", api.ErrClass, 0}, {"[A D", api.ErrClass, 3}, {"[^D]", api.ErrClass, 2}, {"(D", api.ErrClass, 1}, {"D)", api.ErrClass, 0},
		{long, api.ErrLong, 0}, {"A " + long, api.ErrLong, 2}, {"[" + long, api.ErrLong, 1}, {long[1:], api.ErrClass, 0}, {"[^ " + long + "]", api.ErrLong, 3},
		// The first from the left.
		{"* D", api.ErrSyntax, 0}, {"D *)", api.ErrClass, 0}, {"(D *", api.ErrClass, 1}, {"(A | \xff " + long, api.ErrSyntax, 5},
	} {
		if p, e, at := pattern.Parse(x.s, abc); e != x.e || at != x.at || !same(p, empty) {
			t.Errorf("%q: %v %d %d; want %d %d", x.s, p, e, at, x.e, x.at)
		}
	}
	for _, s := range []string{"A", "[A]", "[^A]", "(A)"} {
		if p, e, at := pattern.Parse(s, nil); e != api.ErrClass || at != strings.Index(s, "A") || !same(p, empty) {
			t.Errorf("without names %q: %v %d %d", s, p, e, at)
		}
	}
}

func manyNames(n int) []string {
	var l []string
	for i := range n {
		l = append(l, "N"+strconv.Itoa(i))
	}
	return l
}

func TestP5_1Names(t *testing.T) {
	for _, x := range []struct {
		names []string
		s     string
		e     api.Errno
		at    int
	}{
		{nil, "", api.OK, 0},
		{manyNames(64), " N63", api.OK, 0},
		{manyNames(65), "", api.ErrArg, 0},
		{manyNames(100000), "N0", api.ErrArg, 0},
		{[]string{"A", "A"}, "", api.ErrArg, 0},
		{[]string{"A", "B", "C", "A"}, "A", api.ErrArg, 0},
		{[]string{"A", "a"}, " a", api.OK, 0},
		{[]string{""}, "", api.ErrArg, 0},
		{[]string{"A", "1"}, "A", api.ErrArg, 0},
		{[]string{"A", "B C"}, "A", api.ErrArg, 0},
		{[]string{"_A"}, "", api.ErrArg, 0},
		{[]string{"\xff"}, "", api.ErrArg, 0},
		{[]string{strings.Repeat("n", 32)}, strings.Repeat("n", 32), api.OK, 0},
		{[]string{strings.Repeat("n", 33)}, "", api.ErrArg, 0},
		// The names' error counts ahead of the text's.
		{[]string{"A", "A"}, strings.Repeat(" ", 4097), api.ErrArg, 0},
		{[]string{"A", "A"}, "A )", api.ErrArg, 0},
		{[]string{"A"}, strings.Repeat(" ", 4096), api.OK, 0},
		{[]string{"A"}, strings.Repeat(" ", 4097), api.ErrLong, 0},
		{[]string{"A"}, ")" + strings.Repeat(" ", 4096), api.ErrLong, 0},
		{[]string{"A"}, strings.Repeat(" ", 4095) + ")", api.ErrSyntax, 4095},
		{[]string{"A"}, strings.Repeat(" ", 4095) + "(", api.ErrShort, 4096},
		{[]string{"A"}, strings.Repeat("A", 1<<20), api.ErrLong, 0},
		{[]string{"A"}, strings.Repeat("A", 4096), api.ErrLong, 0},
	} {
		p, e, at := pattern.Parse(x.s, x.names)
		if e != x.e || at != x.at || e != api.OK && !same(p, empty) {
			t.Errorf("%.20q with %.20q: %d %d; want %d %d", x.s, x.names, e, at, x.e, x.at)
		}
	}
	if p := parsed(t, ".", manyNames(64)); len(p.Classes) != 64 || p.Classes[63] != 63 {
		t.Errorf("all of 64: %v", p)
	}
	if p := parsed(t, "[^N0 N63]", manyNames(64)); len(p.Classes) != 62 || p.Classes[0] != 1 || p.Classes[61] != 62 {
		t.Errorf("all but two of 64: %v", p)
	}
	if p, e, _ := pattern.Parse("[^N1]", manyNames(2)); e != api.OK || !same(p, set(0)) {
		t.Errorf("all but one of two: %v", p)
	}
}

func TestP5_1Deep(t *testing.T) {
	open, shut := strings.Repeat("(", 32), strings.Repeat(")", 32)
	if p := parsed(t, open+"A"+shut, abc); !same(p, set(0)) {
		t.Errorf("32 parentheses: %v", p)
	}
	// Those that are closed do not count.
	if p := parsed(t, open+"A"+shut+open+"B"+shut, abc); !same(p, then(set(0), set(1))) {
		t.Errorf("32 parentheses twice: %v", p)
	}
	parsed(t, open+strings.Repeat(")(", 20)+shut, abc)
	for s, want := range map[string]int{open + "(": 32, open + "A | (D": 36, open + " ()": 33, open + ")((": 34, "[A]" + open + "[A](": 38} {
		if p, e, at := pattern.Parse(s, abc); e != api.ErrDeep || at != want || !same(p, empty) {
			t.Errorf("%q: %d %d; want ErrDeep, %d", s, e, at, want)
		}
	}
}

func TestP5_1Many(t *testing.T) {
	long := strings.Repeat("N", api.MaxName+1)
	// heads have so many parts, and an operator may stand behind them; last has the part number 512.
	for _, head := range []struct {
		s     string
		parts int
	}{
		{strings.Repeat("A ", 512), 512}, {strings.Repeat("*", 511), 511}, {strings.Repeat(".", 512), 512}, {strings.Repeat("[A B C]", 512), 512}, {strings.Repeat("[]", 512), 512}, {strings.Repeat("()", 512), 512}, {strings.Repeat("(A)", 256), 512}, {strings.Repeat("A|", 255) + "A.", 512}, {strings.Repeat("|", 511) + ".", 512}, {strings.Repeat("A? ", 256), 512},
	} {
		s := head.s
		if head.parts == 511 {
			s = "A" + s
		}
		parsed(t, s, abc)
		for _, last := range []string{"A", ".", "*", "+", "?", "|", "(", "[A]", "[", "[*", "[]", "(*", "D", long, "(" + long} {
			if p, e, at := pattern.Parse(s+last, abc); e != api.ErrMany || at != len(s) || !same(p, empty) {
				t.Errorf("%.20q, then %.20q: %d %d; want ErrMany, %d", s, last, e, at, len(s))
			}
		}
		for _, last := range []string{")", "]", "^", "\xff", "1"} {
			if _, e, at := pattern.Parse(s+last, abc); e != api.ErrSyntax || at != len(s) {
				t.Errorf("%.20q, then %q: %d %d; want ErrSyntax, %d", s, last, e, at, len(s))
			}
		}
	}
	// What may not stand there is no part, wherever it stands.
	s := strings.Repeat("A", 1) + strings.Repeat("*", 510) + "|"
	if _, e, at := pattern.Parse(s+"*", abc); e != api.ErrSyntax || at != len(s) {
		t.Errorf("an operator behind 512 parts and a bar: %d %d; want ErrSyntax, %d", e, at, len(s))
	}
	if _, e, at := pattern.Parse(s+"D", abc); e != api.ErrMany || at != len(s) {
		t.Errorf("a name behind 512 parts: %d %d; want ErrMany, %d", e, at, len(s))
	}
	// One part short of it the other errors count.
	s = strings.Repeat(".", 511)
	for last, want := range map[string]api.Errno{"D": api.ErrClass, long: api.ErrLong} {
		if _, e, at := pattern.Parse(s+last, abc); e != want || at != len(s) {
			t.Errorf("511 parts, then %.20q: %d %d", last, e, at)
		}
	}
	// At one place, too many counts ahead of too deep.
	s = strings.Repeat(".", 480) + strings.Repeat("(", 32)
	if _, e, at := pattern.Parse(s+"(", abc); e != api.ErrMany || at != len(s) {
		t.Errorf("too many and too deep: %d %d; want ErrMany, %d", e, at, len(s))
	}
	if _, e, at := pattern.Parse(s[1:]+"(", abc); e != api.ErrDeep || at != len(s)-1 {
		t.Errorf("too deep alone: %d %d; want ErrDeep, %d", e, at, len(s)-1)
	}
	if _, e, at := pattern.Parse(s, abc); e != api.ErrShort || at != len(s) {
		t.Errorf("as many parts as may be, open: %d %d; want ErrShort", e, at)
	}
	// A name in a set is no part.
	parsed(t, strings.Repeat(".", 511)+"["+strings.Repeat("A B C ", 100)+"]", abc)
}

// tokens come in random texts; most of them may stand in many places.
var tokens = []string{"A", "B", "C", "A ", "B ", " C ", "*", "+", "?", "|", "(", ")", "(", ")", "[", "]", "[A", "C]", "[A B]", "[^C]", "^", ".", " ", "\t", "[]", "()", "(A|B)", "A*", "D", "\xff", "9", "_", "-", "[^"}

func someText(r *rand.Rand, n int) string {
	var b strings.Builder
	mostly := 20 + r.Intn(len(tokens)-19)
	for range n {
		b.WriteString(tokens[r.Intn(mostly)])
	}
	return b.String()
}

func TestP5_1AgainstPlain(t *testing.T) {
	r := rand.New(rand.NewSource(51))
	for i := range 60000 {
		n := r.Intn(12)
		if i%100 == 0 {
			n = r.Intn(900)
		}
		s := someText(r, n)
		p, e, at := pattern.Parse(s, abc)
		if q, f, to := plainParse(s, abc); e != f || at != to || !same(p, q) {
			t.Fatalf("%q: %v %d %d; want %v %d %d", s, p, e, at, q, f, to)
		}
	}
	for range 20000 {
		b := make([]byte, r.Intn(6))
		for i := range b {
			b[i] = byte(r.Intn(256))
		}
		p, e, at := pattern.Parse(string(b), abc)
		if q, f, to := plainParse(string(b), abc); e != f || at != to || !same(p, q) {
			t.Fatalf("%q: %v %d %d; want %v %d %d", b, p, e, at, q, f, to)
		}
	}
}

func TestP5_1EveryByte(t *testing.T) {
	for b := range 256 {
		for _, ahead := range []string{"", "A", "A ", "(", "A|", "A*", "(A)", "[", "[^", "[A ", "[ ", "[^A\t"} {
			s := ahead + string([]byte{byte(b)})
			p, e, at := pattern.Parse(s, abc)
			if q, f, to := plainParse(s, abc); e != f || at != to || !same(p, q) {
				t.Errorf("%q: %v %d %d; want %v %d %d", s, p, e, at, q, f, to)
			}
		}
	}
}

func TestP5_1NewMemory(t *testing.T) {
	names := slices.Clone(abc)
	for _, s := range []string{"A B* | [^C] .", "(A|B|C) (A B C)?", "[A B C] .*", "A|A|A|A|A"} {
		p, q, want := parsed(t, s, names), parsed(t, s, names), parsed(t, s, abc)
		spoil(p)
		if !same(q, want) || !same(parsed(t, s, names), want) {
			t.Errorf("%q: what one answer holds is in another", s)
		}
	}
	if !slices.Equal(names, abc) {
		t.Errorf("names: %q", names)
	}
	// No two lists of one answer are the same memory, their spare room neither.
	p := parsed(t, "(. . . A|.) (. | [^A])+", names)
	seen := map[*int]int{}
	for _, q := range plainNodes(p, 2048) {
		for i := range q.Classes[:cap(q.Classes)] {
			seen[&q.Classes[:cap(q.Classes)][i]]++
		}
	}
	for _, n := range seen {
		if n > 1 {
			t.Errorf("two sets share memory")
		}
	}
}
