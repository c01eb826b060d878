package pattern_test

import (
	"math/rand"
	"slices"
	"strings"
	"testing"

	"kerf/api"
	"kerf/pattern"
)

func TestP5_4Matches(t *testing.T) {
	for _, x := range []struct {
		s    string
		yes  string // lists of classes, each a word of digits; - is the empty one
		no   string
		name string
	}{
		{"", "-", "0 1 00", "nothing"},
		{"A", "0", "- 1 2 00 9", "one class"},
		{"[A C]", "0 2", "- 1 02 3", "a set"},
		{"[]", "", "- 0 1 2", "an empty set"},
		{".", "0 1 2", "- 3 00", "all"},
		{"A B", "01", "- 0 1 10 011 012", "then"},
		{"A B C", "012", "- 01 12 0122 210", "then, three"},
		{"A () B", "01", "- 0 1", "then nothing"},
		{"A | B C", "0 12", "- 1 2 012 02", "or"},
		{"A |", "- 0", "00 1", "or nothing"},
		{"A*", "- 0 00 0000000", "1 01 10 0001000", "many"},
		{"A+", "0 00 000", "- 1 001", "some"},
		{"A?", "- 0", "00 1", "may"},
		{"()*", "-", "0 00", "many of nothing"},
		{"()+", "-", "0", "some of nothing"},
		{"[]*", "-", "0 1", "many of an empty set"},
		{"[]+", "", "- 0", "some of an empty set"},
		{"[]?", "-", "0", "may of an empty set"},
		{"A []", "", "- 0 00", "what cannot end"},
		{"(A B)*", "- 01 0101", "0 1 010 10 011", "many of two"},
		{"(A | A B)+", "0 01 00 010 0101 0010", "- 1 011 10", "some that begin alike"},
		{"(A*)*", "- 0 00", "1 01", "many of many"},
		{"(A? B?)*", "- 0 1 01 10 1100", "2 02", "many of what may be nothing"},
		{"(A* | B)+ C", "2 02 0012 1102", "- 0 20 0120", "some of what may be nothing"},
		{". . [^C]? A", "000 120 2210 110", "- 0 00 1220 01", "in a row"},
		{"(A+ B)+ A*", "01 0010 01001000", "- 0 011 1", "one in the other"},
	} {
		p := parsed(t, x.s, abc)
		for _, w := range strings.Fields(x.yes) {
			if !pattern.Matches(p, word(w)) {
				t.Errorf("%q: %s is matched (%s)", x.s, w, x.name)
			}
		}
		for _, w := range strings.Fields(x.no) {
			if pattern.Matches(p, word(w)) {
				t.Errorf("%q: %s is not matched (%s)", x.s, w, x.name)
			}
		}
	}
	for _, c := range [][]int{{-1}, {3}, {0, -1}, {-1, 0}, {1 << 40}, {0, 1 << 40}} {
		if pattern.Matches(parsed(t, ".*", abc), c) {
			t.Errorf("%v is matched by all classes", c)
		}
	}
}

func word(s string) []int {
	var l []int
	for _, b := range strings.Trim(s, "-") {
		l = append(l, int(b-'0'))
	}
	return l
}

func TestP5_5EndsStarts(t *testing.T) {
	for _, x := range []struct {
		s, c         string
		ends, starts []int
	}{
		{"A B*", "0112", []int{1, 2, 3}, nil},
		{"B+", "011", nil, []int{1, 2}},
		{"", "-", []int{0}, []int{0}},
		{"", "01", []int{0}, []int{2}},
		{".*", "012", []int{0, 1, 2, 3}, []int{0, 1, 2, 3}},
		{"A", "-", nil, nil},
		{"A", "0", []int{1}, []int{0}},
		{"[]", "00", nil, nil},
		{"[]*", "00", []int{0}, []int{2}},
		{"A B | A", "01", []int{1, 2}, []int{0}},
		{"A B | B", "01", []int{2}, []int{0, 1}},
		{"(A B)*", "010100", []int{0, 2, 4}, []int{6}},
		{"(A B)*", "110101", []int{0}, []int{2, 4, 6}},
		{"A? A? A?", "0000", []int{0, 1, 2, 3}, []int{1, 2, 3, 4}},
		{"A (B|C)* A", "0120210", []int{4}, []int{3}},
		{"A*", "00900", []int{0, 1, 2}, []int{3, 4, 5}},
		{"A A*", "9", nil, nil},
	} {
		p := parsed(t, x.s, abc)
		if got := pattern.Ends(p, word(x.c)); !slices.Equal(got, x.ends) {
			t.Errorf("%q: Ends in %s: %v; want %v", x.s, x.c, got, x.ends)
		}
		if got := pattern.Starts(p, word(x.c)); !slices.Equal(got, x.starts) {
			t.Errorf("%q: Starts in %s: %v; want %v", x.s, x.c, got, x.starts)
		}
	}
	p := many(set(5))
	if got := pattern.Ends(p, []int{5, -5, 5}); !slices.Equal(got, []int{0, 1}) {
		t.Errorf("Ends ahead of a class below 0: %v", got)
	}
	if got := pattern.Starts(p, []int{5, -5, 5}); !slices.Equal(got, []int{2, 3}) {
		t.Errorf("Starts behind a class below 0: %v", got)
	}
}

func TestP5_6EmptyFirsts(t *testing.T) {
	for _, x := range []struct {
		s      string
		empty  bool
		firsts []int
	}{
		{"", true, nil}, {"A", false, []int{0}}, {"[C A]", false, []int{0, 2}}, {"[]", false, nil}, {".", false, []int{0, 1, 2}}, {"A? B", false, []int{0, 1}}, {"A B", false, []int{0}}, {"A* B* C*", true, []int{0, 1, 2}}, {"A* B+ C*", false, []int{0, 1}}, {"C | A", false, []int{0, 2}}, {"C | A | ()", true, []int{0, 2}}, {"()*", true, nil}, {"()+ B", false, []int{1}}, {"(A | B?) C", false, []int{0, 1, 2}}, {"(A B)+", false, []int{0}}, {"(A? B?)+", true, []int{0, 1}},
		{"[] A", false, nil}, {"A []", false, nil}, {"A? []", false, nil}, {"A | B []", false, []int{0}}, {"[]? A", false, []int{0}}, {"[]* A", false, []int{0}}, {"[]+ A", false, nil}, {"A []+", false, nil}, {"A []*", false, []int{0}}, {"A (B | [])", false, []int{0}}, {"A ([] | [])", false, nil}, {"(A [])* B", false, []int{1}}, {"(A [])? B?", true, []int{1}}, {"(A [])+ | B", false, []int{1}}, {"((A []) | C)+", false, []int{2}}, {"A B C (B [])", false, nil},
	} {
		p := parsed(t, x.s, abc)
		if got := pattern.Empty(p); got != x.empty {
			t.Errorf("%q: Empty: %v", x.s, got)
		}
		if got := pattern.Firsts(p); !slices.Equal(got, x.firsts) {
			t.Errorf("%q: Firsts: %v; want %v", x.s, got, x.firsts)
		}
	}
}

// TestAgainstPlain holds Matches, Ends, Starts, Empty and Firsts against the words of P5.4, for all short lists.
func TestAgainstPlain(t *testing.T) {
	r := rand.New(rand.NewSource(54))
	all := lists(3, 4)
	for range 1500 {
		p := somePattern(r, 2+r.Intn(2), 1+r.Intn(14))
		var yes []bool
		for _, c := range all {
			yes = append(yes, plainMatches(p, c))
		}
		var firsts []int
		for i, c := range all {
			if got := pattern.Matches(p, c); got != yes[i] {
				t.Fatalf("%v: Matches(%v): %v", p, c, got)
			}
			if yes[i] && len(c) > 0 {
				firsts = append(firsts, c[0])
			}
			if r.Intn(10) > 0 {
				continue
			}
			var ends, starts []int
			for n := range len(c) + 1 {
				if plainMatches(p, c[:n]) {
					ends = append(ends, n)
				}
				if plainMatches(p, c[n:]) {
					starts = append(starts, n)
				}
			}
			if got := pattern.Ends(p, c); !slices.Equal(got, ends) {
				t.Fatalf("%v: Ends(%v): %v; want %v", p, c, got, ends)
			}
			if got := pattern.Starts(p, c); !slices.Equal(got, starts) {
				t.Fatalf("%v: Starts(%v): %v; want %v", p, c, got, starts)
			}
		}
		if pattern.Empty(p) != yes[0] {
			t.Fatalf("%v: Empty: %v", p, !yes[0])
		}
		// A class with which only long lists begin is not among the short ones.
		slices.Sort(firsts)
		firsts = slices.Compact(firsts)
		got := pattern.Firsts(p)
		for _, c := range firsts {
			if !slices.Contains(got, c) {
				t.Fatalf("%v: Firsts: %v; want %v", p, got, firsts)
			}
		}
		if len(plainNodes(p, 100)) < 7 && !slices.Equal(got, firsts) {
			t.Fatalf("%v: Firsts: %v; want %v", p, got, firsts)
		}
	}
}

func TestP5_10Backwards(t *testing.T) {
	r := rand.New(rand.NewSource(510))
	for range 1500 {
		p := somePattern(r, 3, r.Intn(30))
		q := pattern.Reverse(p)
		if !pattern.Equal(pattern.Reverse(q), p) {
			t.Fatalf("%v: back: %v", p, pattern.Reverse(q))
		}
		for range 20 {
			c := someList(r, 3)
			d := slices.Clone(c)
			slices.Reverse(d)
			if pattern.Matches(p, c) != pattern.Matches(q, d) {
				t.Fatalf("%v: %v forwards %v", p, c, pattern.Matches(p, c))
			}
			ends, starts := pattern.Ends(q, d), pattern.Starts(p, c)
			slices.Reverse(ends)
			for i, n := range ends {
				ends[i] = len(c) - n
			}
			if !slices.Equal(ends, starts) {
				t.Fatalf("%v: Starts in %v: %v; backwards %v", p, c, starts, ends)
			}
		}
	}
}

func someList(r *rand.Rand, classes int) []int {
	var c []int
	for range r.Intn(9) {
		c = append(c, r.Intn(classes))
	}
	return c
}

func TestP5_11Kleene(t *testing.T) {
	r := rand.New(rand.NewSource(511))
	for range 1500 {
		p, q := somePattern(r, 3, r.Intn(12)), somePattern(r, 3, r.Intn(12))
		for i, two := range [][2]api.Pattern{{then(p, many(p)), some(p)}, {then(many(p), p), some(p)}, {or(p, empty), may(p)}, {or(empty, p), may(p)}, {many(many(p)), many(p)}, {or(p, q), or(q, p)}, {or(p, q, empty), or(empty, q, p)}, {may(some(p)), many(p)}, {or(p, p), p}} {
			if pattern.Empty(two[0]) != pattern.Empty(two[1]) || !slices.Equal(pattern.Firsts(two[0]), pattern.Firsts(two[1])) {
				t.Fatalf("law %d of %v, %v: Empty or Firsts", i, p, q)
			}
			for range 15 {
				c := someList(r, 3)
				if a, b := pattern.Ends(two[0], c), pattern.Ends(two[1], c); !slices.Equal(a, b) {
					t.Fatalf("law %d of %v, %v in %v: %v, %v", i, p, q, c, a, b)
				}
				if a, b := pattern.Starts(two[0], c), pattern.Starts(two[1], c); !slices.Equal(a, b) {
					t.Fatalf("law %d of %v, %v in %v: Starts %v, %v", i, p, q, c, a, b)
				}
			}
		}
	}
}

// TestSoonDone: operators in one another, as deep as may be, and long lists are no long work.
func TestSoonDone(t *testing.T) {
	p := then(set(0), set(1))
	for i := range 2045 {
		p = api.Pattern{Op: api.PatMany + i%3, Kids: []api.Pattern{p}}
	}
	var c []int
	for range 1000 {
		c = append(c, 0, 1)
	}
	if ends := pattern.Ends(p, c); len(ends) != 1001 || ends[1000] != 2000 {
		t.Errorf("deep: %d ends", len(ends))
	}
	if starts := pattern.Starts(p, c); len(starts) != 1001 || starts[0] != 0 {
		t.Errorf("deep: %d starts", len(starts))
	}
	// A? as often as there are A: each may be left out.
	q := api.Pattern{Op: api.PatThen}
	for range 600 {
		q.Kids = append(q.Kids, may(set(0)))
	}
	for range 600 {
		q.Kids = append(q.Kids, set(0))
	}
	if zeros := make([]int, 600); !pattern.Matches(q, zeros) || pattern.Matches(q, zeros[1:]) || !pattern.Matches(q, make([]int, 1200)) || pattern.Matches(q, make([]int, 1201)) {
		t.Errorf("what may be left out")
	}
	long := make([]int, 300000)
	long[len(long)-1] = 1
	if ends := pattern.Ends(parsed(t, "(A|A A)* B", abc), long); !slices.Equal(ends, []int{300000}) {
		t.Errorf("long: %v", ends)
	}
	if starts := pattern.Starts(parsed(t, "(A|A A)* B", abc), long); len(starts) != 300000 {
		t.Errorf("long: %d starts", len(starts))
	}
}
