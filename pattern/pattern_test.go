package pattern_test

import (
	"math"
	"math/rand"
	"slices"
	"strings"
	"sync"
	"testing"

	"kerf/api"
	"kerf/pattern"
)

func TestP5_2Check(t *testing.T) {
	two := []api.Pattern{{}, {}}
	for i, x := range []struct {
		p       api.Pattern
		classes int
		want    api.Errno
	}{
		{empty, 0, api.OK}, {empty, -1, api.OK}, {empty, math.MinInt, api.OK}, {empty, math.MaxInt, api.OK},
		{set(), 0, api.OK}, {set(), math.MinInt, api.OK}, {set(0), 1, api.OK}, {set(0), 0, api.ErrClass}, {set(0), -1, api.ErrClass}, {set(0), math.MinInt, api.ErrClass},
		{set(0, 1, 2), 3, api.OK}, {set(0, 1, 2), 2, api.ErrClass}, {set(3), 3, api.ErrClass}, {set(2), 3, api.OK}, {set(math.MaxInt), math.MaxInt, api.ErrClass}, {set(math.MaxInt - 1), math.MaxInt, api.OK},
		{set(-1), 3, api.ErrClass}, {set(math.MinInt), 3, api.ErrClass}, {set(-1, 0), 3, api.ErrClass}, {set(1, 0), 3, api.ErrClass}, {set(1, 1), 3, api.ErrClass}, {set(0, 2, 1), 3, api.ErrClass}, {set(0, 1, 1), 3, api.ErrClass},
		{then(set(0), set(1)), 2, api.OK}, {or(set(0), set(1), empty), 2, api.OK}, {many(set(0)), 1, api.OK}, {some(set(0)), 1, api.OK}, {may(set(0)), 1, api.OK},
		// An Op that is none.
		{api.Pattern{Op: 7}, 3, api.ErrForm}, {api.Pattern{Op: -1}, 3, api.ErrForm}, {api.Pattern{Op: math.MaxInt}, 3, api.ErrForm}, {api.Pattern{Op: math.MinInt}, 3, api.ErrForm}, {api.Pattern{Op: 7, Kids: two}, 3, api.ErrForm},
		// Classes where none may be.
		{api.Pattern{Op: api.PatEmpty, Classes: []int{0}}, 3, api.ErrForm}, {api.Pattern{Op: api.PatThen, Classes: []int{0}, Kids: two}, 3, api.ErrForm}, {api.Pattern{Op: api.PatOr, Classes: []int{0}, Kids: two}, 3, api.ErrForm}, {api.Pattern{Op: api.PatMany, Classes: []int{0}, Kids: two[:1]}, 3, api.ErrForm}, {api.Pattern{Op: api.PatSome, Classes: []int{0}, Kids: two[:1]}, 3, api.ErrForm}, {api.Pattern{Op: api.PatMay, Classes: []int{0}, Kids: two[:1]}, 3, api.ErrForm},
		{api.Pattern{Op: api.PatEmpty, Classes: []int{}, Kids: []api.Pattern{}}, 3, api.OK}, {api.Pattern{Op: api.PatMay, Classes: []int{}, Kids: two[:1]}, 3, api.OK},
		// The number of Kids.
		{api.Pattern{Op: api.PatEmpty, Kids: two[:1]}, 3, api.ErrForm}, {api.Pattern{Op: api.PatSet, Kids: two[:1]}, 3, api.ErrForm}, {api.Pattern{Op: api.PatSet, Classes: []int{0}, Kids: two}, 3, api.ErrForm},
		{then(), 3, api.ErrForm}, {then(empty), 3, api.ErrForm}, {then(two...), 3, api.OK}, {or(), 3, api.ErrForm}, {or(empty), 3, api.ErrForm}, {or(two...), 3, api.OK},
		{api.Pattern{Op: api.PatMany}, 3, api.ErrForm}, {api.Pattern{Op: api.PatMany, Kids: two}, 3, api.ErrForm}, {api.Pattern{Op: api.PatSome}, 3, api.ErrForm}, {api.Pattern{Op: api.PatSome, Kids: two}, 3, api.ErrForm}, {api.Pattern{Op: api.PatMay}, 3, api.ErrForm}, {api.Pattern{Op: api.PatMay, Kids: two}, 3, api.ErrForm},
		// Of two faults the first counts: a node ahead of its Kids, these from the left.
		{api.Pattern{Op: api.PatSet, Classes: []int{5, 1}, Kids: two}, 3, api.ErrForm}, {api.Pattern{Op: 9, Classes: []int{-1}}, 3, api.ErrForm},
		{then(set(9), then()), 3, api.ErrClass}, {then(then(), set(9)), 3, api.ErrForm}, {then(then(set(0), set(9)), then()), 3, api.ErrClass}, {many(then(then(empty), set(9))), 3, api.ErrForm}, {api.Pattern{Op: api.PatThen, Kids: []api.Pattern{set(9)}}, 3, api.ErrForm}, {or(set(0), many(set(3)), then()), 3, api.ErrClass},
		// Nodes.
		{deep(2048), 0, api.OK}, {deep(2049), 0, api.ErrDeep}, {wide(2048), 0, api.OK}, {wide(2049), 0, api.ErrDeep}, {deep(100000), 0, api.ErrDeep}, {wide(100000), 0, api.ErrDeep}, {endless(), 3, api.ErrDeep},
		{then(wide(1024), wide(1023)), 0, api.OK}, {then(wide(1024), wide(1024)), 0, api.ErrDeep}, {then(wide(1024), wide(1022), empty), 0, api.OK}, {then(deep(1024), wide(1023), empty), 0, api.ErrDeep},
		// The node number 2048 is too much, whatever it is; what is ahead of it counts first.
		{then(wide(2046), set(9)), 3, api.ErrClass}, {then(wide(2047), set(9)), 3, api.ErrDeep}, {then(wide(2047), then()), 3, api.ErrDeep}, {then(set(9), wide(5000)), 3, api.ErrClass}, {then(wide(5000), set(9)), 3, api.ErrDeep}, {or(then(empty), endless()), 3, api.ErrForm}, {or(endless(), then(empty)), 3, api.ErrDeep},
		{api.Pattern{Op: api.PatMany, Kids: make([]api.Pattern, 5000)}, 3, api.ErrForm},
	} {
		if got := pattern.Check(x.p, x.classes); got != x.want {
			t.Errorf("%d: %.80v with %d: %d; want %d", i, short(x.p), x.classes, got, x.want)
		}
	}
}

// short is what can be told of p, which may be endless.
func short(p api.Pattern) []int {
	var l []int
	for _, q := range plainNodes(p, 5) {
		l = append(l, q.Op)
	}
	return l
}

// someWrong is a pattern of which much may be wrong.
func someWrong(r *rand.Rand, size int) api.Pattern {
	p := somePattern(r, 4, size)
	for range r.Intn(3) {
		p = wronged(r, p)
	}
	return p
}

func wronged(r *rand.Rand, p api.Pattern) api.Pattern {
	p = copied(p)
	if len(p.Kids) > 0 && r.Intn(3) > 0 {
		i := r.Intn(len(p.Kids))
		p.Kids[i] = wronged(r, p.Kids[i])
		return p
	}
	switch r.Intn(4) {
	case 0:
		p.Op = r.Intn(10) - 1
	case 1:
		p.Classes = append(p.Classes, r.Intn(6)-1)
	case 2:
		p.Kids = append(p.Kids, empty)
	case 3:
		p.Kids = p.Kids[:len(p.Kids)/2]
	}
	return p
}

func TestP5_2AgainstPlain(t *testing.T) {
	r := rand.New(rand.NewSource(52))
	for range 30000 {
		p, classes := someWrong(r, r.Intn(12)), r.Intn(6)
		if got, want := pattern.Check(p, classes), plainCheck(p, classes); got != want {
			t.Fatalf("%v with %d: %d; want %d", p, classes, got, want)
		}
	}
}

// TestGood: each call on a pattern that is not good answers none, and one that is good by a hair is taken.
func TestGood(t *testing.T) {
	for i, p := range []api.Pattern{{Op: 7}, {Op: -1}, then(), then(empty), many(or(empty)), {Classes: []int{1}}, set(1, 1), set(2, 1), set(-1), set(1<<31 - 1), set(math.MaxInt), may(set(-5)), deep(2049), wide(2049), endless(), {Op: api.PatMay, Kids: make([]api.Pattern, 2)}} {
		if pattern.Matches(p, nil) || pattern.Matches(p, []int{1}) || pattern.Matches(p, []int{-1}) || len(pattern.Ends(p, nil)) > 0 || len(pattern.Starts(p, nil)) > 0 || len(pattern.Ends(p, []int{1, 1})) > 0 || len(pattern.Starts(p, []int{1, 1})) > 0 || pattern.Empty(p) || len(pattern.Firsts(p)) > 0 || !same(pattern.Reverse(p), empty) {
			t.Errorf("%d: %v is taken", i, short(p))
		}
	}
	top := 1<<31 - 2
	p := set(0, top)
	if !pattern.Matches(p, []int{top}) || !slices.Equal(pattern.Firsts(p), []int{0, top}) || !same(pattern.Reverse(p), p) {
		t.Errorf("the greatest class")
	}
	for i, p := range []api.Pattern{deep(2048), wide(2048)} {
		if !pattern.Matches(p, nil) || pattern.Matches(p, []int{0}) || !slices.Equal(pattern.Ends(p, []int{0}), []int{0}) || !slices.Equal(pattern.Starts(p, []int{0}), []int{1}) || !pattern.Empty(p) || len(pattern.Firsts(p)) > 0 || !same(pattern.Reverse(p), p) {
			t.Errorf("%d: a pattern of 2048 nodes", i)
		}
	}
}

func TestP5_3Print(t *testing.T) {
	for _, x := range []struct {
		p    api.Pattern
		want string
	}{
		{empty, "()"}, {set(1), "B"}, {set(), "[]"}, {set(0, 2), "[A C]"}, {set(0, 1, 2), "."},
		{then(set(0), set(1)), "A B"}, {then(empty, set(1), empty), "() B ()"}, {then(then(set(0), set(1)), set(2)), "(A B) C"}, {then(set(2), then(set(0), set(1))), "C (A B)"}, {then(or(set(0), set(1)), set(2)), "(A | B) C"}, {then(many(set(0)), may(set(1))), "A* B?"},
		{or(set(0), set(1)), "A | B"}, {or(empty, set(0, 1, 2)), "() | ."}, {or(or(set(0), set(1)), set(2)), "(A | B) | C"}, {or(then(set(0), set(1)), set(2)), "A B | C"}, {or(set(2), then(set(0), set(1))), "C | A B"}, {or(many(set(0)), set()), "A* | []"},
		{many(set(0)), "A*"}, {some(set(0)), "A+"}, {may(set(0)), "A?"}, {many(empty), "()*"}, {some(set()), "[]+"}, {may(set(0, 1)), "[A B]?"}, {many(then(set(0), set(1))), "(A B)*"}, {some(or(set(0), set(1))), "(A | B)+"}, {many(many(set(0))), "A**"}, {may(some(many(set(0)))), "A*+?"}, {may(then(some(or(set(0), empty)), set(1))), "((A | ())+ B)?"},
	} {
		if s, e := pattern.Print(x.p, abc); e != api.OK || s != x.want {
			t.Errorf("%v: %q %d; want %q", x.p, s, e, x.want)
		}
	}
	for _, x := range []struct {
		p     api.Pattern
		names []string
		want  string
	}{{set(), nil, "[]"}, {empty, nil, "()"}, {set(0), []string{"Z"}, "Z"}, {set(), []string{"Z"}, "[]"}, {set(0, 1), []string{"Z", "Y"}, "."}, {set(1), []string{"Z", "Y"}, "Y"}, {then(set(1), set(0)), []string{"Long_1", strings.Repeat("n", 32)}, strings.Repeat("n", 32) + " Long_1"}} {
		if s, e := pattern.Print(x.p, x.names); e != api.OK || s != x.want {
			t.Errorf("%v with %q: %q %d; want %q", x.p, x.names, s, e, x.want)
		}
	}
}

func nested(op, times int) api.Pattern {
	p := then(set(0), set(1))
	for i := range times {
		if i%2 == 0 && op == api.PatOr {
			p = many(p)
		} else {
			p = then(p, set(0))
		}
	}
	return p
}

func TestP5_3Faults(t *testing.T) {
	parts := func(n int) api.Pattern {
		p := api.Pattern{Op: api.PatThen}
		for range n {
			p.Kids = append(p.Kids, set(0))
		}
		return p
	}
	// The text of each of these sets has 64 bytes and the blank behind it, but for the last.
	sets := func(n int, more int) ([]string, api.Pattern) {
		names := []string{strings.Repeat("a", 30), strings.Repeat("b", 31), "c", strings.Repeat("d", 1+more)}
		p := api.Pattern{Op: api.PatThen}
		for range n {
			p.Kids = append(p.Kids, set(0, 1))
		}
		p.Kids = append(p.Kids, set(3))
		return names, p
	}
	for i, x := range []struct {
		p     api.Pattern
		names []string
		want  api.Errno
	}{
		{empty, []string{"A", "A"}, api.ErrArg}, {empty, []string{"9"}, api.ErrArg}, {empty, manyNames(65), api.ErrArg}, {then(), []string{""}, api.ErrArg}, {set(0), nil, api.ErrClass},
		{set(3), abc, api.ErrClass}, {then(), abc, api.ErrForm}, {api.Pattern{Op: 8}, abc, api.ErrForm}, {set(1, 0), abc, api.ErrClass}, {then(set(3), then()), abc, api.ErrClass}, {deep(2049), abc, api.ErrDeep}, {endless(), abc, api.ErrDeep}, {then(wide(3000), set(9)), abc, api.ErrDeep},
		{parts(512), abc, api.OK}, {parts(513), abc, api.ErrMany}, {deep(512), abc, api.OK}, {deep(513), abc, api.ErrMany}, {deep(2048), abc, api.ErrMany}, {wide(257), abc, api.OK}, {wide(258), abc, api.ErrMany}, {many(wide(257)), abc, api.ErrMany},
		{nested(api.PatThen, 32), abc, api.OK}, {nested(api.PatThen, 33), abc, api.ErrDeep}, {nested(api.PatOr, 63), abc, api.OK}, {nested(api.PatOr, 65), abc, api.ErrDeep},
	} {
		if s, e := pattern.Print(x.p, x.names); e != x.want || e != api.OK && s != "" {
			t.Errorf("%d: %v: %.40q %d; want %d", i, short(x.p), s, e, x.want)
		}
	}
	for more, want := range map[int]api.Errno{0: api.OK, 1: api.ErrLong} {
		names, p := sets(63, more)
		if s, e := pattern.Print(p, names); e != want || e == api.OK && len(s) != 4096 || e != api.OK && s != "" {
			t.Errorf("a text of %d bytes: %d bytes told, %d; want %d", 4096+more, len(s), e, want)
		}
	}
	// Long and with too many parts: the length counts ahead.
	if s, e := pattern.Print(parts(2047), []string{"ABC"}); e != api.ErrLong || s != "" {
		t.Errorf("2047 parts: %d", e)
	}
}

func TestP5_3AgainstPlain(t *testing.T) {
	r := rand.New(rand.NewSource(53))
	for i := range 20000 {
		p := someWrong(r, r.Intn(20))
		if i%50 == 0 {
			p = somePattern(r, 4, 1500)
		}
		names := []string{"A", "Bb", "C_1", "d", "E"}[:r.Intn(6)]
		s, e := pattern.Print(p, names)
		if want, f := plainPrint(p, names); s != want || e != f {
			t.Fatalf("%v with %q: %q %d; want %q %d", p, names, s, e, want, f)
		}
	}
}

func TestP5_7Reverse(t *testing.T) {
	for s, want := range map[string]string{
		"": "()", "A": "A", "A B": "B A", "A B C": "C B A", "A|B|C": "A | B | C", "(A B)* C | A B": "C (B A)* | B A", "(A B) (B C)": "(C B) (B A)", "[A B] . []": "[] . [A B]", "(A B)+?": "(B A)+?", "A* B? C+": "C+ B? A*",
	} {
		p := pattern.Reverse(parsed(t, s, abc))
		if got, e := pattern.Print(p, abc); e != api.OK || got != want {
			t.Errorf("%q: %q %d; want %q", s, got, e, want)
		}
	}
	r := rand.New(rand.NewSource(57))
	for range 5000 {
		p := somePattern(r, 4, r.Intn(60))
		before := copied(p)
		q := pattern.Reverse(p)
		if !same(q, plainReverse(p)) {
			t.Fatalf("%v: %v", p, q)
		}
		spoil(q)
		if !same(p, before) {
			t.Fatalf("%v: it shares memory with what is answered, %v", before, p)
		}
	}
}

func TestP5_8Equal(t *testing.T) {
	all := []api.Pattern{
		empty, set(), set(0), set(1), set(0, 1), set(1, 0), set(0, 0), set(-1), then(set(0), set(1)), then(set(1), set(0)), then(set(0), set(1), set(2)), or(set(0), set(1)), or(set(0), set(1), set(1)), many(set(0)), some(set(0)), may(set(0)), many(set(1)), many(many(set(0))),
		{Op: 7}, {Op: -1}, then(), then(empty), or(), {Classes: []int{0}}, {Op: api.PatSet, Kids: []api.Pattern{{}}}, then(then(set(0), set(1)), set(2)), then(set(0), then(set(1), set(2))),
	}
	for i, a := range all {
		for j, b := range all {
			if got := pattern.Equal(a, copied(b)); got != (i == j) {
				t.Errorf("%v, %v: %v", a, b, got)
			}
		}
	}
	if !pattern.Equal(api.Pattern{}, api.Pattern{Classes: []int{}, Kids: []api.Pattern{}}) {
		t.Errorf("none and nil are the same")
	}
	r := rand.New(rand.NewSource(58))
	for range 20000 {
		a := someWrong(r, r.Intn(10))
		b := copied(a)
		if r.Intn(2) == 0 {
			b = wronged(r, a)
		}
		if got, want := pattern.Equal(a, b), plainEqual(a, b); got != want {
			t.Fatalf("%v, %v: %v", a, b, got)
		}
	}
}

func TestP5_8BeyondMaxTree(t *testing.T) {
	// wideWith has so many nodes, and the last of them is a set.
	wideWith := func(nodes int) api.Pattern {
		p := wide(nodes)
		p.Kids[nodes-2] = set(1)
		return p
	}
	deepWith := func(nodes int) api.Pattern {
		p := set(1)
		for range nodes - 1 {
			p = may(p)
		}
		return p
	}
	for i, x := range []struct {
		a, b api.Pattern
		want bool
	}{
		{wide(2048), wide(2048), true}, {wide(2048), wideWith(2048), false}, {wide(2049), wideWith(2049), true}, {wide(2048), wide(2049), false}, {wide(3000), wide(3000), true}, {wide(3000), wide(3001), false},
		{deep(2048), deep(2048), true}, {deep(2048), deepWith(2048), false}, {deep(2049), deepWith(2049), true}, {deep(2048), deep(2049), false}, {deep(2049), deep(2050), true}, {deep(2047), deep(50000), false}, {deep(3000), deepWith(90000), true},
		{endless(), endless(), true}, {some(endless()), endless(), true}, {many(endless()), endless(), false}, {endless(), deep(3000), false}, {endless(), some(set(0)), false},
		{then(wide(2046), set(1)), then(wide(2046), set(2)), false}, {then(wide(2047), set(1)), then(wide(2047), set(2)), true}, {then(wide(2047), set(1)), then(wide(2047), set(1), set(2)), false},
		{then(deep(1500), deep(548)), then(deep(1500), deepWith(547)), false}, {then(deep(1500), deep(547), set(1)), then(deep(1500), deep(547), set(2)), true}, {then(deep(1500), deep(546), set(1)), then(deep(1500), deep(546), set(2)), false},
	} {
		if got := pattern.Equal(x.a, x.b); got != x.want {
			t.Errorf("%d: %v", i, got)
		}
		if got := pattern.Equal(x.b, x.a); got != x.want {
			t.Errorf("%d, the other way round: %v", i, got)
		}
		if i < 17 {
			if got := plainEqual(x.a, x.b); got != x.want {
				t.Errorf("%d, plainly: %v", i, got)
			}
		}
	}
	// Both hold themselves a great many times.
	k := make([]api.Pattern, 1<<20)
	for i := range k {
		k[i] = api.Pattern{Op: api.PatOr, Kids: k}
	}
	if !pattern.Equal(k[0], k[1]) || pattern.Check(k[0], 3) != api.ErrDeep {
		t.Errorf("wide and endless")
	}
}

func TestP5_9ThereAndBack(t *testing.T) {
	r := rand.New(rand.NewSource(59))
	printed, read := 0, 0
	for i := range 20000 {
		names := []string{"A", "Bb", "C_1", "d", "E"}[:r.Intn(6)]
		p := somePattern(r, len(names), r.Intn(40))
		if s, e := pattern.Print(p, names); e == api.OK {
			printed++
			if q, e, at := pattern.Parse(s, names); e != api.OK || at != 0 || !same(p, q) || !pattern.Equal(p, q) {
				t.Fatalf("%v: %q, and back %v", p, s, q)
			}
		}
		n := r.Intn(10)
		if i%40 == 0 {
			n = 200
		}
		s := someText(r, n)
		p, e, _ := pattern.Parse(s, abc)
		if e != api.OK {
			continue
		}
		read++
		if e := pattern.Check(p, len(abc)); e != api.OK {
			t.Fatalf("%q: not good: %d", s, e)
		}
		if text, e := pattern.Print(p, abc); e == api.OK {
			if q := parsed(t, text, abc); !pattern.Equal(p, q) {
				t.Fatalf("%q: %q is read as %v, not %v", s, text, q, p)
			}
		}
	}
	if printed < 10000 || read < 2000 {
		t.Errorf("%d patterns, %d texts", printed, read)
	}
	// As many nodes as a text can make are good.
	for _, s := range []string{strings.Repeat("(|)", 256), strings.Repeat("|", 512), strings.Repeat("()", 512), strings.Repeat("(A|B)", 102)} {
		if p := parsed(t, s, abc); pattern.Check(p, 3) != api.OK {
			t.Errorf("%.20q: %d", s, pattern.Check(p, 3))
		}
	}
}

// TestHandedIn: no call changes what it is handed.
func TestHandedIn(t *testing.T) {
	r := rand.New(rand.NewSource(5))
	for range 500 {
		p := someWrong(r, 30)
		names := append(make([]string, 0, 8), abc...)
		c := append(make([]int, 0, 8), 0, 1, 2, 9, -1)
		before := copied(p)
		pattern.Parse("A B", names)
		pattern.Check(p, 3)
		s, _ := pattern.Print(p, names)
		ends, starts, firsts, turned := pattern.Ends(p, c), pattern.Starts(p, c), pattern.Firsts(p), pattern.Reverse(p)
		pattern.Matches(p, c)
		pattern.Empty(p)
		pattern.Equal(p, before)
		for _, l := range [][]int{ends, starts, firsts} {
			l = l[:cap(l)]
			for i := range l {
				l[i] = -9
			}
		}
		spoil(turned)
		if !same(p, before) || !slices.Equal(names, abc) || !slices.Equal(c, []int{0, 1, 2, 9, -1}) || !slices.Equal(c[5:8], []int{0, 0, 0}) || !slices.Equal(names[3:8], make([]string, 5)) {
			t.Fatalf("%v: changed to %v, %q, %v", before, p, names, c)
		}
		if again, _ := pattern.Print(p, names); again != s {
			t.Fatalf("%v: %q, then %q", p, s, again)
		}
	}
}

func TestManyAtOnce(t *testing.T) {
	p := parsed(t, "(A B* | [^C])+ C?", abc)
	want := pattern.Ends(p, []int{0, 1, 1, 0, 2, 1})
	var w sync.WaitGroup
	for range 8 {
		w.Go(func() {
			for range 200 {
				q, e, _ := pattern.Parse("(A B* | [^C])+ C?", abc)
				if e != api.OK || !pattern.Equal(p, q) || !slices.Equal(pattern.Ends(p, []int{0, 1, 1, 0, 2, 1}), want) {
					t.Error("another answer")
				}
				if _, e, at := pattern.Parse("(A", abc); e != api.ErrShort || at != 2 {
					t.Error("another fault")
				}
			}
		})
	}
	w.Wait()
}
