package search_test

import (
	"math"
	"math/rand"
	"slices"
	"strings"
	"testing"

	"kerf/api"
	"kerf/pattern"
	"kerf/props"
	"kerf/search"
)

// abc are classes of some letters; faults are among B.
const abc = "'a' 'x' ; A\n'b' U+20AC U+FFFD ; B\n'c' ; C\n"

// patterns are of many forms, over the classes Other, A, B and C.
var patterns = []string{
	"", "A", ".", ".*", ".+", "[]", "[]*", "A+", "A*", "A?", "[A B]+", "[^A]", "[^Other]+", "A B", "A B | A", "A | A* B", "A* B", "(A B)+", "(A | B C)*", "A () B", "()*", "()", "(A? B?)*", "A A A", "A? A? B", "(A | A A) B*", "[A B]* C", "A .* A", "B+ | A", "(A* B*)* C", "A | B | C | Other", "A [] | B", "(A | B)* A (A | B)",
}

func TestP22_4(t *testing.T) {
	d := dbOf(t, "'a'-'z' ; Letter\n")
	some, may := patternOf(t, d, "Letter+"), patternOf(t, d, "Letter?")
	for _, x := range []struct {
		p     api.Pattern
		s     string
		at    int
		want  int
		there bool
	}{
		{some, "ab 1c", 0, 2, true},
		{some, "ab 1c", 1, 2, true},
		{some, "ab 1c", 2, 0, false},
		{some, "ab 1c", 4, 5, true},
		{some, "ab 1c", 5, 0, false},
		{some, "ab 1c", 6, 0, false},
		{some, "ab 1c", -1, 0, false},
		{some, "\u20aca", 1, 0, false},
		{some, "\u20aca", 2, 0, false},
		{some, "\u20aca", 3, 4, true},
		{some, "ab", math.MinInt, 0, false},
		{some, "ab", math.MaxInt, 0, false},
		{may, "ab", 0, 1, true},
		{may, "1", 0, 0, false},
		{may, "", 0, 0, false},
		{api.Pattern{}, "ab", 0, 0, false},
	} {
		if got, ok := search.Longest(d, x.p, x.s, x.at); got != x.want || ok != x.there {
			t.Errorf("Longest(%v, %q, %d): %d %v", x.p, x.s, x.at, got, ok)
		}
	}
	for _, x := range []struct {
		p    string
		s    string
		want []span
	}{
		{"Letter+", "ab 1c", []span{{0, 2}, {4, 5}}},
		{"Letter", "ab 1c", []span{{0, 1}, {1, 2}, {4, 5}}},
		{"Letter*", "ab 1c", []span{{0, 2}, {4, 5}}},
		{"Other Letter", "a  bc", []span{{2, 4}}},
		{"Letter Other Letter | Letter", "a b c", []span{{0, 3}, {4, 5}}},
		{"Other", "\u20ac\xe2\x82", []span{{0, 3}, {3, 4}, {4, 5}}},
		{"()", "ab", nil},
		{"Letter", "", nil},
	} {
		if got := search.Classes(d, patternOf(t, d, x.p), x.s); !slices.Equal(got, matchesOf(x.want)) {
			t.Errorf("Classes(%s, %q): %v", x.p, x.s, got)
		}
	}
}

// checkClasses holds what a pattern matches in s against the plain reading.
func checkClasses(t *testing.T, d *props.Db, p api.Pattern, s string) {
	t.Helper()
	for _, at := range around(s) {
		got, there := search.Longest(d, p, s, at)
		if want, ok := longest(d, p, s, at); got != want || there != ok {
			t.Fatalf("Longest(%v, %q, %d): %d %v, want %d %v", p, s, at, got, there, want, ok)
		}
	}
	if got, want := search.Classes(d, p, s), classes(d, p, s); !slices.Equal(got, want) {
		t.Fatalf("Classes(%v, %q): %v, want %v", p, s, got, want)
	}
}

func TestP22_4Short(t *testing.T) {
	d := dbOf(t, abc)
	for _, text := range patterns {
		p := patternOf(t, d, text)
		for s := range rows(4, "a", "b", "c", " ") {
			checkClasses(t, d, p, s)
		}
		for s := range rows(3, "a", "\u20ac", "\xe2", "\x82", "c") {
			checkClasses(t, d, p, s)
		}
	}
}

// somePattern is of so many nodes, or a few more.
func somePattern(r *rand.Rand, nodes int) api.Pattern {
	if nodes <= 1 {
		if r.Intn(9) == 0 {
			return api.Pattern{}
		}
		p := api.Pattern{Op: api.PatSet}
		for _, class := range []int{0, 1, 2, 3, 63, 64, 1 << 20, math.MaxInt32 - 1} {
			if r.Intn(3) == 0 {
				p.Classes = append(p.Classes, class)
			}
		}
		return p
	}
	switch op := 2 + r.Intn(5); op {
	case api.PatThen, api.PatOr:
		ahead := 1 + r.Intn(nodes)
		return api.Pattern{Op: op, Kids: []api.Pattern{somePattern(r, ahead), somePattern(r, nodes-ahead)}}
	default:
		return api.Pattern{Op: op, Kids: []api.Pattern{somePattern(r, nodes-1)}}
	}
}

func TestP22_4Some(t *testing.T) {
	r := rand.New(rand.NewSource(224))
	d := dbOf(t, abc)
	for range 3000 {
		p := somePattern(r, 1+r.Intn(14))
		var s strings.Builder
		for range r.Intn(12) {
			s.WriteString([]string{"a", "b", "c", " ", "\u20ac", "\xe2\x82"}[r.Intn(6)])
		}
		checkClasses(t, d, p, s.String())
	}
}

func TestP22_4Wrong(t *testing.T) {
	d := dbOf(t, abc)
	set := api.Pattern{Op: api.PatSet, Classes: []int{1}}
	round := api.Pattern{Op: api.PatMany, Kids: make([]api.Pattern, 1)}
	round.Kids[0] = round
	round.Kids[0].Kids = round.Kids
	wide := api.Pattern{Op: api.PatOr}
	for range api.MaxTree {
		wide.Kids = append(wide.Kids, set)
	}
	for _, p := range []api.Pattern{
		{Op: -1}, {Op: 7}, {Op: api.PatThen}, {Op: api.PatThen, Kids: []api.Pattern{set}}, {Op: api.PatMany}, {Op: api.PatSome, Kids: []api.Pattern{set, set}},
		{Op: api.PatSet, Classes: []int{2, 1}}, {Op: api.PatSet, Classes: []int{1, 1}}, {Op: api.PatSet, Classes: []int{-1}}, {Op: api.PatSet, Classes: []int{1, math.MaxInt32}},
		{Classes: []int{1}}, {Op: api.PatSet, Classes: []int{1}, Kids: []api.Pattern{{}}}, round, wide,
	} {
		if pattern.Check(p, math.MaxInt32) == api.OK {
			t.Fatal(p)
		}
		if n, ok := search.Longest(d, p, "aaa", 0); n != 0 || ok {
			t.Error(p.Op, n, ok)
		}
		if l := search.Classes(d, p, "aaa"); len(l) > 0 {
			t.Error(p.Op, l)
		}
	}
	if n, ok := search.Longest(nil, set, "aaa", 0); n != 0 || ok {
		t.Error(n, ok)
	}
	if l := search.Classes(nil, patternOf(t, d, "."), "aaa"); len(l) > 0 {
		t.Error(l)
	}
	// The greatest that are good.
	wide.Kids = wide.Kids[:api.MaxTree-1]
	deep := set
	for range api.MaxTree - 1 {
		deep = api.Pattern{Op: api.PatSome, Kids: []api.Pattern{deep}}
	}
	for _, p := range []api.Pattern{wide, deep} {
		if n, ok := search.Longest(d, p, "aab", 0); n == 0 || !ok {
			t.Error(p.Op, n, ok)
		}
	}
	if l := search.Classes(d, deep, "aaba"); !slices.Equal(l, matchesOf([]span{{0, 2}, {3, 4}})) {
		t.Error(l)
	}
}

// What is handed in stays as it is, and answers share nothing.
func TestP22_4New(t *testing.T) {
	d := dbOf(t, abc)
	list := []int{0, 1, 70, 9}
	p := api.Pattern{Op: api.PatSome, Kids: []api.Pattern{{Op: api.PatSet, Classes: list[:3]}}}
	a := search.Classes(d, p, "aab a")
	search.Longest(d, p, "aab a", 0)
	if !slices.Equal(list, []int{0, 1, 70, 9}) {
		t.Error(list)
	}
	b := search.Classes(d, p, "aab a")
	a[0].To, a[1].From = 7, 7
	if !slices.Equal(b, matchesOf([]span{{0, 2}, {3, 5}})) {
		t.Error(b)
	}
}

func TestP22_4Long(t *testing.T) {
	d := dbOf(t, abc)
	as := strings.Repeat("a", 200000)
	for _, x := range []struct {
		p, s  string
		count int
	}{
		{"A+", as, 1},
		{"A", as, len(as)},
		{"A* B", as, 0},
		{"A | A* B", as, len(as)},
		{"A | A* B", as + "b", 1},
		{"(A* B)* C", as + "b" + as, 0},
		{"A? A? A? A? A? A? A? A? C | A A", as, len(as) / 2},
		{"(A | B)* A (A | B) (A | B) (A | B) (A | B) (A | B) (A | B)", strings.Repeat("aabab", 20000), 1},
	} {
		p := patternOf(t, d, x.p)
		quick(t, x.p, func() {
			if n := len(search.Classes(d, p, x.s)); n != x.count {
				t.Errorf("%s: %d", x.p, n)
			}
			search.Longest(d, p, x.s, 0)
		})
	}
	// What lies behind the end of a run has no part.
	quick(t, "near", func() {
		for at := range 2000 {
			if n, ok := search.Longest(d, patternOf(t, d, "A B"), strings.Repeat("ab", 1000)+as, at&^1); !ok || n != at&^1+2 {
				t.Fatal(at, n, ok)
			}
		}
	})
}
