package rules_test

import (
	"math"
	"math/rand"
	"slices"
	"sync"
	"testing"

	"kerf/api"
	"kerf/rules"
)

func TestP8_1Applies(t *testing.T) {
	for i, x := range []struct {
		line string
		c    []int
		want []int // the places at which it applies
	}{
		{"Cr ~ Lf", []int{1, 2, 1, 1, 2}, []int{1, 4}},
		{"Cr ~ Lf", []int{2, 1}, nil},
		{"Cr ~ Lf", nil, nil},
		{"~", nil, []int{0}},
		{"~", []int{0, 3}, []int{0, 1, 2}},
		{"Cr ~", []int{1, 0, 1}, []int{1, 3}},
		{"~ Cr", []int{1, 0, 1}, []int{0, 2}},
		{"Other Mark* ~ Mark* Other", []int{0, 3, 3, 0}, []int{1, 2, 3}},
		{"Other* ~ Mark*", []int{3, 0}, []int{0, 1, 2}},
		{"Other+ ~ Mark+", []int{0, 3, 0, 3}, []int{1, 3}},
		// Start alone, End alone, and both.
		{"^ Cr ~", []int{1, 1}, []int{1}},
		{"^ ~", []int{1, 1}, []int{0}},
		{"^ ~", nil, []int{0}},
		{"^ Cr* ~", []int{1, 1, 0, 1}, []int{0, 1, 2}},
		{"^ . Cr ~", []int{0, 1, 0, 1}, []int{2}},
		{"~ Cr $", []int{1, 1}, []int{1}},
		{"~ $", []int{1, 1}, []int{2}},
		{"~ $", nil, []int{0}},
		{"~ Cr* $", []int{1, 0, 1, 1}, []int{2, 3, 4}},
		{"~ Cr . $", []int{1, 0, 1, 0}, []int{2}},
		{"^ ~ $", nil, []int{0}},
		{"^ ~ $", []int{1}, nil},
		{"^ Cr ~ Lf $", []int{1, 2}, []int{1}},
		{"^ Cr ~ Lf $", []int{1, 1, 2}, nil},
		{"^ Cr ~ Lf $", []int{1, 2, 2}, nil},
		{"^ Cr* ~ Lf* $", []int{1, 1, 2}, []int{2}},
		{"^ .* ~ .* $", []int{1, 1, 2}, []int{0, 1, 2, 3}},
		{"^ Cr ~ Lf", []int{1, 2, 2}, []int{1}},
		{"Cr ~ Lf $", []int{1, 1, 2}, []int{2}},
		// Patterns that match nothing.
		{"[] ~", []int{0, 1}, nil},
		{"~ []", []int{0, 1}, nil},
		{"Cr [] ~ .", []int{1, 1}, nil},
		// Classes that no pattern names.
		{". ~ .", []int{4, 0, 0, 64, 0, -1, 1, 1, 1 << 40, 2}, []int{2, 7}},
		{"~", []int{-1, 64, math.MinInt, math.MaxInt}, []int{0, 1, 2, 3, 4}},
		{"Cr ~", []int{-1, 1, 99, 1}, []int{2, 4}},
		{"~ Cr", []int{-1, 1, 99, 1}, []int{1, 3}},
		{"^ . ~", []int{-1, 1}, nil},
		{"~ . $", []int{1, -1}, nil},
	} {
		r := made(t, x.line, few).Rules[0]
		var got []int
		for at := -3; at <= len(x.c)+3; at++ {
			if rules.Applies(r, x.c, at) {
				got = append(got, at)
			}
		}
		if !slices.Equal(got, x.want) {
			t.Errorf("%d: %q over %v: %v; want %v", i, x.line, x.c, got, x.want)
		}
		for _, at := range []int{math.MinInt, math.MinInt + 1, math.MaxInt - 1, math.MaxInt} {
			if rules.Applies(r, x.c, at) {
				t.Errorf("%d: %q applies at %d", i, x.line, at)
			}
		}
	}
}

func TestP8_1NotGood(t *testing.T) {
	all := many(set(0, 1, 2))
	for i, p := range notGood() {
		for _, flags := range []int{0, 1, 2, 3} {
			start, end := flags&1 > 0, flags&2 > 0
			for _, c := range [][]int{nil, {0}, {-1}, {1<<31 - 1, 0}, {0, 1, 2}} {
				for at := range len(c) + 1 {
					for _, r := range []api.Rule{{Start: start, End: end, Left: p, Right: all}, {Start: start, End: end, Left: all, Right: p}, {Start: start, End: end, Left: p, Right: p}} {
						if rules.Applies(r, c, at) {
							t.Fatalf("%d: it applies in %v at %d", i, c, at)
						}
					}
				}
			}
		}
		// Such a rule never decides, and those behind it do.
		rs := api.RuleSet{Rest: true, Rules: []api.Rule{{Left: p}, {Right: p}, {Start: true, Left: p}, {End: true, Right: p}, {Left: set(0)}}}
		c := []int{0, 1, 0, 2}
		if got := rules.Bounds(rs, c); !slices.Equal(got, []int{0, 2, 4}) {
			t.Errorf("%d: Bounds: %v", i, got)
		}
		if got := traced(t, rs, c); !slices.Equal(got, []int{-1, 4, -1, 4, -1}) {
			t.Errorf("%d: Trace: %v", i, got)
		}
		if cut, n := rules.Decide(rs, c, 1); cut || n != 4 {
			t.Errorf("%d: Decide: %v, %d", i, cut, n)
		}
	}
	top := 1<<31 - 2
	if !rules.Applies(api.Rule{Left: set(top), Right: set(top)}, []int{top, top}, 1) {
		t.Errorf("the greatest class")
	}
}

func TestP8_1AgainstPlain(t *testing.T) {
	r := rand.New(rand.NewSource(81))
	for range 4000 {
		x, c := someRule(r, 3), someList(r, 3, 8, r.Intn(3) == 0)
		for at := -1; at <= len(c)+1; at++ {
			if got, want := rules.Applies(x, c, at), plainApplies(x, c, at); got != want {
				t.Fatalf("%v over %v at %d: %v", x, c, at, got)
			}
		}
	}
}

// decided holds Decide, Bounds and Trace against the plain reading.
func decided(t *testing.T, rs api.RuleSet, c []int) {
	t.Helper()
	var cuts, numbers []int
	for at := -2; at <= len(c)+2; at++ {
		cut, n := plainDecide(rs, c, at)
		if gotCut, gotN := rules.Decide(rs, c, at); gotCut != cut || gotN != n {
			t.Fatalf("over %v at %d: %v, %d; want %v, %d", c, at, gotCut, gotN, cut, n)
		}
		if cut {
			cuts = append(cuts, at)
		}
		if len(c) > 0 && at >= 0 && at <= len(c) {
			numbers = append(numbers, n)
		}
	}
	if got := rules.Bounds(rs, c); !slices.Equal(got, cuts) {
		t.Fatalf("Bounds of %v: %v; want %v", c, got, cuts)
	}
	if got := traced(t, rs, c); !slices.Equal(got, numbers) {
		t.Fatalf("Trace of %v: %v; want %v", c, got, numbers)
	}
}

func TestP8_2Decide(t *testing.T) {
	for i, x := range []struct {
		text   string
		c      []int
		cuts   []int
		number []int
	}{
		{"Cr ~ Lf\n(Cr | Lf) /\n/ (Cr | Lf)\n. ~ Mark\n", []int{0, 3, 1, 2, 0}, []int{0, 2, 4, 5}, []int{-1, 3, 2, 0, 1, -1}},
		{"^ Mark ~ .\nrest ~", []int{3, 0, 0}, []int{0, 3}, []int{-1, 0, -1, -1}},
		{"", nil, nil, nil},
		{"rest ~", nil, nil, nil},
		{"~", nil, nil, nil},
		{"/", nil, nil, nil},
		{"", []int{0}, []int{0, 1}, []int{-1, -1}},
		{"~\nrest ~", []int{0}, []int{0, 1}, []int{-1, -1}},
		{"", []int{0, 1, 2}, []int{0, 1, 2, 3}, []int{-1, -1, -1, -1}},
		{"rest ~", []int{0, 1, 2}, []int{0, 3}, []int{-1, -1, -1, -1}},
		{"~", []int{0, 1, 2}, []int{0, 3}, []int{-1, 0, 0, -1}},
		{"/\nrest ~", []int{0, 1, 2}, []int{0, 1, 2, 3}, []int{-1, 0, 0, -1}},
		{"Cr /\n~", []int{1, 0, 1, 0}, []int{0, 1, 3, 4}, []int{-1, 0, 1, 0, -1}},
		{"~\nCr /", []int{1, 0, 1, 0}, []int{0, 4}, []int{-1, 0, 0, 0, -1}},
		{"Other / Mark* $\nrest ~", []int{0, 3, 0, 3, 3}, []int{0, 3, 5}, []int{-1, -1, -1, 0, -1, -1}},
		{"^ Cr ~ Lf $", []int{1, 2}, []int{0, 2}, []int{-1, 0, -1}},
		{"^ Cr ~ Lf $", []int{1, 2, 2}, []int{0, 1, 2, 3}, []int{-1, -1, -1, -1}},
		{". ~ .", []int{0, -1, 0, 0, 77, 0}, []int{0, 1, 2, 4, 5, 6}, []int{-1, -1, -1, 0, -1, -1, -1}},
	} {
		rs := made(t, x.text, few)
		if got := rules.Bounds(rs, x.c); !slices.Equal(got, x.cuts) {
			t.Errorf("%d: %q: Bounds of %v: %v; want %v", i, x.text, x.c, got, x.cuts)
		}
		if got := traced(t, rs, x.c); !slices.Equal(got, x.number) {
			t.Errorf("%d: %q: Trace of %v: %v; want %v", i, x.text, x.c, got, x.number)
		}
		decided(t, rs, x.c)
		for _, at := range []int{math.MinInt, -1, len(x.c) + 1, math.MaxInt} {
			if cut, n := rules.Decide(rs, x.c, at); cut || n != -1 {
				t.Errorf("%d: %q at %d: %v, %d", i, x.text, at, cut, n)
			}
		}
	}
}

func TestP8_2AgainstPlain(t *testing.T) {
	r := rand.New(rand.NewSource(82))
	for range 3000 {
		decided(t, someRules(r, 3, 5), someList(r, 3, 9, r.Intn(4) == 0))
	}
	for range 1000 {
		decided(t, wrongRules(r, 3, 5), someList(r, 3, 6, r.Intn(4) == 0))
	}
}

// TestP8_2Great has patterns that are good by a hair, beside which nothing more may stand, and more rules than a text may have.
func TestP8_2Great(t *testing.T) {
	for _, nodes := range []int{2040, 2043, 2044, 2045, 2046, 2047, 2048} {
		p := then(row(nodes-3), set(1, 3))
		if nodes%2 == 0 {
			p = or(set(1, 3), row(nodes-3))
			p.Kids[1].Kids[5] = set()
		}
		c := []int{0, 1, 1, 3, 2, 3}
		for _, rs := range []api.RuleSet{
			{Rules: []api.Rule{{Break: mayCut, Left: p}}},
			{Rules: []api.Rule{{Break: mayCut, Right: p}}},
			{Rules: []api.Rule{{Break: mayCut, Start: true, Left: then(set(0), set(1), set(1), set(3)), Right: set(2)}, {Left: p, Right: p}}, Rest: true},
		} {
			decided(t, rs, c)
			decided(t, rs, []int{1, -1, 1, 3})
		}
	}
	over := api.RuleSet{Rules: make([]api.Rule, 200)}
	for n := range over.Rules {
		over.Rules[n] = api.Rule{Break: n%2 == 0, Left: set(n)}
	}
	if got := traced(t, over, []int{199, 0, 64, 300, 1}); !slices.Equal(got, []int{-1, 199, 0, 64, -1, -1}) {
		t.Errorf("200 rules: %v", got)
	}
	if got := rules.Bounds(over, []int{199, 0, 64, 300, 1}); !slices.Equal(got, []int{0, 2, 3, 5}) {
		t.Errorf("200 rules: %v", got)
	}
}

// TestP8_2Long has a list that no one would wait for, if all that stands ahead were looked through at each place.
func TestP8_2Long(t *testing.T) {
	rs := made(t, "Cr Other* ~ Other* Cr\nCr Other* ~ Other* Lf\nLf Other* ~ Other* Cr\nLf Other* / Other* Lf\nrest ~", few)
	c := make([]int, 60000)
	c[0], c[len(c)-1] = 2, 2
	if got := rules.Bounds(rs, c); len(got) != len(c)+1 {
		t.Errorf("%d bounds", len(got))
	}
	c[30000] = 1
	if got := rules.Bounds(rs, c); !slices.Equal(got, []int{0, len(c)}) {
		t.Errorf("%d bounds", len(got))
	}
}

func TestP8_3Trace(t *testing.T) {
	rs := made(t, "Cr ~ Lf\n(Cr | Lf) /\n/ (Cr | Lf)\n. ~ Mark\n", few)
	c := []int{0, 3, 1, 2, 0}
	want := []int{-1, 3, 2, 0, 1, -1}
	trace := rules.Trace(rs, c)
	// Left at every place, and gone over again.
	for stop := range want {
		var got []int
		for at, n := range trace {
			if got = append(got, n); at == stop {
				break
			}
		}
		if !slices.Equal(got, want[:stop+1]) {
			t.Errorf("left at %d: %v", stop, got)
		}
		told := 0
		trace(func(at, n int) bool { told++; return at < stop })
		if told != stop+1 {
			t.Errorf("left at %d: %d told", stop, told)
		}
	}
	// Nested.
	for i, n := range trace {
		for j, m := range trace {
			if n != want[i] || m != want[j] {
				t.Errorf("nested at %d, %d: %d, %d", i, j, n, m)
			}
			if j == i {
				break
			}
		}
	}
	if rules.Trace(rs, nil) == nil || rules.Trace(api.RuleSet{}, []int{}) == nil {
		t.Errorf("nil to go over")
	}
	for at, n := range rules.Trace(rs, nil) {
		t.Errorf("none: %d, %d", at, n)
	}
	for at, n := range rules.Trace(api.RuleSet{}, []int{}) {
		t.Errorf("none: %d, %d", at, n)
	}
}

func TestP8_3Kept(t *testing.T) {
	const text = "Cr ~ Lf\n(Cr | Lf) /\n/ (Cr | Lf)\n. ~ Mark\n"
	rs, c := made(t, text, few), []int{0, 3, 1, 2, 0}
	want := []int{-1, 3, 2, 0, 1, -1}
	trace := rules.Trace(rs, c)
	for at, n := range trace {
		if n != want[at] {
			t.Errorf("changed on the way: at %d: %d", at, n)
		}
		clear(c)
		spoil(rs)
	}
	for at, n := range trace {
		if n != want[at] {
			t.Errorf("changed: at %d: %d", at, n)
		}
	}
	// Ahead of the first step, too.
	rs, c = made(t, text, few), []int{0, 3, 1, 2, 0}
	trace = rules.Trace(rs, c)
	clear(c)
	spoil(rs)
	told := 0
	for at, n := range trace {
		if told++; n != want[at] {
			t.Errorf("changed ahead: at %d: %d", at, n)
		}
	}
	if told != len(want) {
		t.Errorf("%d places", told)
	}
}

func TestP8_5Check(t *testing.T) {
	a, bad, deep := set(0, 2), set(1, 1), row(2049)
	with := func(l ...api.Rule) api.RuleSet { return api.RuleSet{Rules: l} }
	for i, x := range []struct {
		rs      api.RuleSet
		classes int
		e       api.Errno
		n       int
	}{
		{with(), 0, api.OK, 0}, {with(), -5, api.OK, 0}, {with(api.Rule{}), math.MinInt, api.OK, 0},
		{with(api.Rule{Left: a, Right: a}), 3, api.OK, 0},
		{with(api.Rule{Left: a, Right: a}), 2, api.ErrClass, 0},
		{with(api.Rule{}, api.Rule{Left: a}), 2, api.ErrClass, 1},
		{with(api.Rule{}, api.Rule{}, api.Rule{Right: a}), 2, api.ErrClass, 2},
		{with(api.Rule{Left: bad}), 3, api.ErrClass, 0},
		{with(api.Rule{Left: or(), Right: bad}), 3, api.ErrForm, 0},
		{with(api.Rule{Left: bad, Right: or()}), 3, api.ErrClass, 0},
		{with(api.Rule{Right: deep}, api.Rule{Left: bad}), 3, api.ErrDeep, 0},
		{with(api.Rule{}, api.Rule{Right: or()}, api.Rule{Left: bad}), 3, api.ErrForm, 1},
		{with(api.Rule{}, api.Rule{Left: endless()}), 3, api.ErrDeep, 1},
		{with(make([]api.Rule, 64)...), 3, api.OK, 0},
		{with(make([]api.Rule, 65)...), 3, api.ErrMany, 0},
		{with(append(make([]api.Rule, 63), api.Rule{Right: bad})...), 3, api.ErrClass, 63},
		{with(append([]api.Rule{{Left: bad}}, make([]api.Rule, 64)...)...), 3, api.ErrMany, 0},
	} {
		if e, n := rules.Check(x.rs, x.classes); e != x.e || n != x.n {
			t.Errorf("%d: %d, %d; want %d, %d", i, e, n, x.e, x.n)
		}
	}
	r := rand.New(rand.NewSource(85))
	for range 1000 {
		rs, classes := wrongRules(r, 3, 4), r.Intn(5)
		e, n := rules.Check(rs, classes)
		if we, wn := plainCheck(rs, classes); e != we || n != wn {
			t.Fatalf("%d, %d; want %d, %d", e, n, we, wn)
		}
	}
}

func TestP8_6Reverse(t *testing.T) {
	for _, x := range [][2]string{
		{"", "rest /\n"},
		{"rest ~", "rest ~\n"},
		{"Cr Lf ~ Mark", "Mark ~ Lf Cr\nrest /\n"},
		{"^ Cr ~ Lf Mark", "Mark Lf ~ Cr $\nrest /\n"},
		{"Cr / Lf Mark $", "^ Mark Lf / Cr\nrest /\n"},
		{"^ Cr ~ Lf $", "^ Lf ~ Cr $\nrest /\n"},
		{"Cr /\n~ Lf\nrest ~", "() / Cr\nLf ~ ()\nrest ~\n"},
		{"(Cr Lf)* | Mark Cr ~ [Cr Lf] (Lf | Cr Mark)?", "(Lf | Mark Cr)? [Cr Lf] ~ (Lf Cr)* | Cr Mark\nrest /\n"},
	} {
		if got, e := rules.Print(rules.Reverse(made(t, x[0], few)), few); e != api.OK || got != x[1] {
			t.Errorf("%q: %q, %d; want %q", x[0], got, e, x[1])
		}
	}
	r := rand.New(rand.NewSource(86))
	for range 500 {
		rs := someRules(r, 3, 5)
		kept := copied(rs)
		once := rules.Reverse(rs)
		twice := rules.Reverse(once)
		if !same(rs, kept) || !same(twice, kept) || !rules.Equal(twice, rs) {
			t.Fatalf("twice: %v of %v", twice, kept)
		}
		spoil(once)
		if !same(rs, kept) || !same(twice, kept) {
			t.Fatalf("an answer shares with another, or with what was handed in")
		}
		spoil(twice)
		if !same(rs, kept) {
			t.Fatalf("an answer shares with what was handed in")
		}
	}
	// A pattern that is not good has the zero one for its Reverse.
	for i, p := range notGood() {
		got := rules.Reverse(api.RuleSet{Rules: []api.Rule{{Break: true, Start: true, Left: p, Right: set(1)}, {Right: p}}, Rest: true})
		want := api.RuleSet{Rules: []api.Rule{{Break: true, End: true, Left: set(1)}, {}}, Rest: true}
		if !same(got, want) {
			t.Errorf("%d: %v", i, got)
		}
	}
	if got := rules.Reverse(api.RuleSet{Rules: make([]api.Rule, 100)}); len(got.Rules) != 100 {
		t.Errorf("%d rules", len(got.Rules))
	}
}

func TestP8_6Equal(t *testing.T) {
	first := func() api.RuleSet {
		return api.RuleSet{Rules: []api.Rule{{Left: set(0), Right: then(set(1), set(2))}, {Break: true, Start: true, End: true}}, Rest: true}
	}
	for i, change := range []func(rs *api.RuleSet){
		func(rs *api.RuleSet) { rs.Rest = false },
		func(rs *api.RuleSet) { rs.Rules = rs.Rules[:1] },
		func(rs *api.RuleSet) { rs.Rules = append(rs.Rules, api.Rule{}) },
		func(rs *api.RuleSet) { rs.Rules[0], rs.Rules[1] = rs.Rules[1], rs.Rules[0] },
		func(rs *api.RuleSet) { rs.Rules[0].Break = true },
		func(rs *api.RuleSet) { rs.Rules[1].Break = false },
		func(rs *api.RuleSet) { rs.Rules[0].Start = true },
		func(rs *api.RuleSet) { rs.Rules[1].Start = false },
		func(rs *api.RuleSet) { rs.Rules[0].End = true },
		func(rs *api.RuleSet) { rs.Rules[1].End = false },
		func(rs *api.RuleSet) { rs.Rules[0].Left = set(1) },
		func(rs *api.RuleSet) { rs.Rules[0].Left = set(0, 1) },
		func(rs *api.RuleSet) { rs.Rules[0].Right = then(set(1), set(1)) },
		func(rs *api.RuleSet) { rs.Rules[0].Right.Op = api.PatOr },
		func(rs *api.RuleSet) { rs.Rules[1].Left = may(empty) },
		func(rs *api.RuleSet) { rs.Rules[1].Right = may(empty) },
		func(rs *api.RuleSet) { rs.Rules[1].Right = set() },
		func(rs *api.RuleSet) { rs.Rules = nil },
	} {
		a, b := first(), first()
		if !rules.Equal(a, b) || !rules.Equal(a, a) {
			t.Fatalf("%d: Equal to itself", i)
		}
		change(&b)
		if rules.Equal(a, b) || rules.Equal(b, a) {
			t.Errorf("%d: Equal to another", i)
		}
	}
	if !rules.Equal(api.RuleSet{}, api.RuleSet{Rules: []api.Rule{}}) {
		t.Errorf("nil and an empty list")
	}
	// Sets that are not good, and such as hold themselves.
	x := api.RuleSet{Rules: []api.Rule{{Left: endless(), Right: or()}}}
	y := api.RuleSet{Rules: []api.Rule{{Left: endless(), Right: or()}}}
	if !rules.Equal(x, y) {
		t.Errorf("Equal of endless ones")
	}
	if !rules.Equal(api.RuleSet{Rules: make([]api.Rule, 100)}, api.RuleSet{Rules: make([]api.Rule, 100)}) {
		t.Errorf("Equal of 100 rules")
	}
}

// cuts are what Decide says of all places, by the plain reading too.
func cuts(t *testing.T, rs api.RuleSet, c []int) []bool {
	t.Helper()
	decided(t, rs, c)
	l := make([]bool, len(c)+1)
	for _, at := range rules.Bounds(rs, c) {
		l[at] = true
	}
	return l
}

func TestP8_7FirstDecides(t *testing.T) {
	r := rand.New(rand.NewSource(87))
	for range 600 {
		rs, c := someRules(r, 3, 5), someList(r, 3, 7, false)
		had, numbers := cuts(t, rs, c), traced(t, rs, c)
		// A rule laid behind all.
		more := copied(rs)
		more.Rules = append(more.Rules, someRule(r, 3))
		for at, cut := range cuts(t, more, c) {
			if cut != had[at] && numbers[at] != -1 {
				t.Fatalf("a rule behind all changes %d in %v", at, c)
			}
		}
		// A rule that matches nothing, laid in anywhere.
		nothing := []api.Rule{{Break: r.Intn(2) == 0, Left: set()}, {Break: r.Intn(2) == 0, Right: set()}, {Left: then(many(set(0)), set())}, {Break: r.Intn(2) == 0, Right: row(2049)}, {Left: api.Pattern{Op: 9}}}
		more = copied(rs)
		more.Rules = slices.Insert(more.Rules, r.Intn(len(rs.Rules)+1), nothing[r.Intn(len(nothing))])
		if !slices.Equal(cuts(t, more, c), had) {
			t.Fatalf("a rule that matches nothing changes what is said of %v", c)
		}
		// Two of one Break, one behind the other, change places.
		more = copied(rs)
		for n := 1; n < len(more.Rules); n++ {
			if more.Rules[n-1].Break == more.Rules[n].Break {
				more.Rules[n-1], more.Rules[n] = more.Rules[n], more.Rules[n-1]
			}
		}
		if !slices.Equal(cuts(t, more, c), had) {
			t.Fatalf("rules of one Break may not change places: %v", c)
		}
	}
}

func TestP8_8BothWays(t *testing.T) {
	r := rand.New(rand.NewSource(88))
	for range 2000 {
		rs, c := someRules(r, 3, 5), someList(r, 3, 9, r.Intn(4) == 0)
		turned := slices.Clone(c)
		slices.Reverse(turned)
		want := rules.Bounds(rs, c)
		for i := range want {
			want[i] = len(c) - want[i]
		}
		slices.Reverse(want)
		if got := rules.Bounds(rules.Reverse(rs), turned); !slices.Equal(got, want) {
			t.Fatalf("%v turned round: %v; want %v", c, got, want)
		}
	}
}

func TestP8_9Ends(t *testing.T) {
	r := rand.New(rand.NewSource(89))
	for range 500 {
		rs, c := wrongRules(r, 3, 5), someList(r, 3, 6, true)
		got := rules.Bounds(rs, c)
		if len(c) == 0 {
			if len(got) != 0 {
				t.Fatalf("bounds of none: %v", got)
			}
			continue
		}
		if got[0] != 0 || got[len(got)-1] != len(c) {
			t.Fatalf("%v: %v", c, got)
		}
	}
}

// TestP8_10Alone: were a place to hang on the cuts ahead of it, every second one here would be none.
func TestP8_10Alone(t *testing.T) {
	rs := made(t, "Cr ~ Cr", few)
	if got := rules.Bounds(rs, []int{1, 1, 1, 1, 1}); !slices.Equal(got, []int{0, 5}) {
		t.Errorf("%v", got)
	}
	rs = made(t, "Cr Cr / Cr Cr\nrest ~", few)
	if got := rules.Bounds(rs, []int{1, 1, 1, 1, 1, 1}); !slices.Equal(got, []int{0, 2, 3, 4, 6}) {
		t.Errorf("%v", got)
	}
	r := rand.New(rand.NewSource(810))
	for range 300 {
		rs, c := someRules(r, 3, 5), someList(r, 3, 8, false)
		want := cuts(t, rs, c)
		for _, at := range r.Perm(len(c) + 1) {
			if cut, _ := rules.Decide(rs, c, at); cut != want[at] {
				t.Fatalf("%v at %d: %v", c, at, cut)
			}
		}
	}
}

// TestHandedIn: what is handed in stays as it is, spare room too, and may be used by several at once.
func TestHandedIn(t *testing.T) {
	r := rand.New(rand.NewSource(90))
	for range 100 {
		rs := someRules(r, 3, 4)
		rs.Rules = append(make([]api.Rule, 0, len(rs.Rules)+3), rs.Rules...)
		c := append(make([]int, 0, 20), someList(r, 3, 8, false)...)
		kept, room := copied(rs), slices.Clone(c[:cap(c)])
		var all sync.WaitGroup
		for range 4 {
			all.Go(func() {
				rules.Bounds(rs, c)
				for at := range rules.Trace(rs, c) {
					rules.Decide(rs, c, at)
				}
				for _, x := range rs.Rules {
					rules.Applies(x, c, len(c)/2)
				}
				rules.Check(rs, 3)
				rules.Print(rs, few)
				rules.Equal(rs, rules.Reverse(rs))
			})
		}
		all.Wait()
		if !same(rs, kept) || !slices.Equal(c[:cap(c)], room) {
			t.Fatalf("changed")
		}
		for _, x := range rs.Rules[:cap(rs.Rules)][len(rs.Rules):] {
			if !same(api.RuleSet{Rules: []api.Rule{x}}, api.RuleSet{Rules: make([]api.Rule, 1)}) {
				t.Fatalf("spare room changed")
			}
		}
		a, b := rules.Bounds(rs, c), rules.Bounds(rs, c)
		clear(a[:cap(a)])
		if !slices.Equal(b, rules.Bounds(rs, c)) {
			t.Fatalf("two answers share")
		}
	}
}
