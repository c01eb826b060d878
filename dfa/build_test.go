package dfa_test

import (
	"math"
	"math/rand"
	"slices"
	"testing"

	"kerf/api"
	"kerf/dfa"
	"kerf/nfa"
	"kerf/pattern"
)

// line is an Nfa of so many states one behind the other, each to the next by one class; it ends at end.
func line(states, class, end int) api.Nfa {
	n := api.Nfa{States: make([]api.NfaState, states), End: end}
	for i := range states - 1 {
		n.States[i].Edges = []api.Edge{{Classes: row(class), To: i + 1}}
	}
	return n
}

func zero(d api.Dfa) bool {
	return d.Classes == 0 && d.Next == nil && d.Take == nil
}

func TestP7_2Build(t *testing.T) {
	r := rand.New(rand.NewSource(72))
	sizes := map[int]int{}
	for range 4000 {
		n := someNfa(r, 3, 7)
		classes := 1 + r.Intn(4)
		want, _ := plainBuild(n, classes)
		got, e := dfa.Build(n, classes)
		if e != api.OK || text(got) != text(want) {
			t.Fatal(n, classes, got, e, want)
		}
		sizes[min(len(got.Next), 4)]++
	}
	if sizes[1] < 100 || sizes[2] < 100 || sizes[3] < 100 || sizes[4] < 100 {
		t.Error(sizes)
	}
}

func TestP7_2Forms(t *testing.T) {
	two := api.Nfa{States: []api.NfaState{
		{Edges: []api.Edge{{Classes: row(0, 3), To: 1}, {Classes: row(5, 63), To: 0}, {Classes: nil, To: 1}}, Free: row(0, 0)},
		{Free: row(1)},
	}, End: 1}
	for _, c := range []struct {
		classes int
		want    string
	}{
		{1, "{1 [[1] [-1]] [0 1]}"},
		{3, "{3 [[1 -1 -1] [-1 -1 -1]] [0 1]}"},
		{4, "{4 [[1 -1 -1 1] [-1 -1 -1 -1]] [0 1]}"},
		{6, "{6 [[1 -1 -1 1 -1 0] [-1 -1 -1 -1 -1 -1]] [0 1]}"},
	} {
		if d, e := dfa.Build(two, c.classes); e != api.OK || text(d) != c.want {
			t.Error(c, d, e)
		}
	}
	for _, classes := range []int{63, 64} {
		d, e := dfa.Build(two, classes)
		if e != api.OK || d.Classes != classes || len(d.Next) != 2 || len(d.Next[0]) != classes || d.Next[0][classes-1] != classes-64 {
			t.Error(classes, d, e)
		}
	}
	for name, c := range map[string]struct {
		n    api.Nfa
		want string
	}{
		"the empty list alone": {api.Nfa{States: make([]api.NfaState, 1)}, "{2 [[-1 -1]] [1]}"},
		"nothing":              {api.Nfa{States: make([]api.NfaState, 2), End: 1}, "{2 [[-1 -1]] [0]}"},
		"nothing, by ways":     {api.Nfa{States: []api.NfaState{{Edges: []api.Edge{{Classes: row(0, 1), To: 0}}}, {}}, End: 1}, "{2 [[-1 -1]] [0]}"},
		"every list":           {api.Nfa{States: []api.NfaState{{Edges: []api.Edge{{Classes: row(0), To: 0}, {Classes: row(1), To: 1}}}, {Free: row(0)}}, Start: 1}, "{2 [[0 0]] [1]}"},
	} {
		if d, e := dfa.Build(c.n, 2); e != api.OK || text(d) != c.want {
			t.Error(name, d, e)
		}
	}
}

func TestP7_2Refused(t *testing.T) {
	bad := api.Nfa{States: []api.NfaState{{Free: row(1)}}}
	for _, c := range []struct {
		n       api.Nfa
		classes int
		want    api.Errno
	}{
		{line(2, 0, 1), 0, api.ErrArg}, {line(2, 0, 1), -1, api.ErrArg}, {line(2, 0, 1), 65, api.ErrArg},
		{line(2, 0, 1), math.MinInt, api.ErrArg}, {line(2, 0, 1), math.MaxInt, api.ErrArg},
		{line(2, 0, 1), 1, api.OK}, {line(2, 0, 1), 64, api.OK},
		{api.Nfa{}, 1, api.ErrStart}, {bad, 1, api.ErrState}, {line(2, 0, 2), 1, api.ErrStart}, {line(2, 64, 1), 64, api.ErrState},
		{line(4097, 0, 0), 1, api.ErrMany},
		// Two faults: the one that is named first.
		{api.Nfa{}, 0, api.ErrArg}, {bad, 65, api.ErrArg}, {line(1025, 0, 0), 0, api.ErrArg},
		{line(1025, 0, 1025), 1, api.ErrStart}, {api.Nfa{States: append(line(1025, 0, 0).States, api.NfaState{Free: row(-1)})}, 1, api.ErrState},
	} {
		d, e := dfa.Build(c.n, c.classes)
		if e != c.want || e != api.OK && !zero(d) {
			t.Error(len(c.n.States), c.classes, c.want, e)
		}
	}
}

func TestP7_2MaxSets(t *testing.T) {
	type try struct {
		n       api.Nfa
		classes int
		states  int // 0: too many sets
	}
	tries := map[string]try{
		"1024 sets and the empty one":    {line(1024, 0, 1023), 2, 1024},
		"1025 sets":                      {line(1025, 0, 1024), 2, 0},
		"1024 sets, the first is all":    {line(1024, 0, 0), 1, 1},
		"1025 sets, the first is all":    {line(1025, 0, 0), 1, 0},
		"4096 states, by no such class":  {line(4096, 1, 1), 1, 1},
		"4096 states, by such a class":   {line(4096, 1, 1), 2, 0},
		"1025 sets, class 63 among them": {line(1025, 63, 4), 63, 1},
		"1025 sets by class 63":          {line(1025, 63, 4), 64, 0},
	}
	// Rings in which every state is the end by Free: what is taken is simple, the sets are unlike.
	for _, size := range []int{1023, 1024, 1025} {
		n := line(size+1, 0, size)
		n.States[size-1].Edges = []api.Edge{{Classes: row(0), To: 0}}
		for i := range size {
			n.States[i].Free = row(size)
		}
		states := 1
		if size > 1024 {
			states = 0
		}
		tries["ring of "+text(size)] = try{n, 1, states}
	}
	// A set is unlike another one, too, by states from which nothing is taken: those of a line beside a state that stays, and that one alone.
	for size, states := range map[int]int{1022: 1, 1023: 1, 1024: 0} {
		n := line(size, 0, 0)
		n.States = append(n.States, api.NfaState{Edges: []api.Edge{{Classes: row(0), To: size}}})
		n.States[0].Free = row(size)
		n.End = size
		tries["line of "+text(size)+" beside one"] = try{n, 1, states}
	}
	for name, c := range tries {
		d, e := dfa.Build(c.n, c.classes)
		want := api.OK
		if c.states == 0 {
			want = api.ErrMany
		}
		if e != want || len(d.Next) != c.states || e != api.OK && !zero(d) {
			t.Error(name, e, len(d.Next))
		}
	}
}

func TestP7_2Of(t *testing.T) {
	r := rand.New(rand.NewSource(722))
	for range 1500 {
		p := somePattern(r, 3, 1+r.Intn(10))
		n, e := nfa.Of(p)
		if e != api.OK {
			t.Fatal(p, e)
		}
		want, _ := plainBuild(n, 3)
		got := of(t, p, 3)
		if text(got) != text(want) {
			t.Fatal(p, got, want)
		}
		for range 20 {
			if c := someList(r, 3, 6); dfa.Takes(got, c) != pattern.Matches(p, c) {
				t.Fatal(p, c)
			}
		}
	}
	far := then(many(set(0, 1)), set(0))
	for range 10 {
		far.Kids = append(far.Kids, set(0, 1))
	}
	deep := many(empty)
	for range api.MaxTree {
		deep = many(deep)
	}
	endless := api.Pattern{Op: api.PatMany, Kids: make([]api.Pattern, 1)}
	endless.Kids[0] = endless
	for _, c := range []struct {
		p       api.Pattern
		classes int
		want    api.Errno
	}{
		{set(0), 0, api.ErrArg}, {set(0), -1, api.ErrArg}, {set(0), 65, api.ErrArg}, {set(0), math.MaxInt, api.ErrArg}, {set(0), 64, api.OK},
		{set(2), 2, api.ErrClass}, {set(2), 3, api.OK}, {set(1, 0), 2, api.ErrClass}, {set(-1), 2, api.ErrClass}, {set(64), 64, api.ErrClass}, {set(63), 64, api.OK},
		{api.Pattern{Op: 9}, 2, api.ErrForm}, {then(set(0)), 2, api.ErrForm}, {deep, 2, api.ErrDeep}, {endless, 2, api.ErrDeep},
		{far, 2, api.ErrMany},
		{api.Pattern{Op: 9}, 0, api.ErrArg}, {set(2), 65, api.ErrArg}, {far, 1, api.ErrClass}, {far, 0, api.ErrArg},
	} {
		d, e := dfa.Of(c.p, c.classes)
		if e != c.want || e != api.OK && !zero(d) {
			t.Error(c.want, c.classes, e)
		}
	}
}

func somePattern(r *rand.Rand, classes, nodes int) api.Pattern {
	if nodes < 2 {
		if r.Intn(5) == 0 {
			return empty
		}
		p := set()
		for c := range classes {
			if r.Intn(2) == 0 {
				p.Classes = append(p.Classes, c)
			}
		}
		return p
	}
	if op := r.Intn(5); op > 1 || nodes < 3 {
		return api.Pattern{Op: api.PatMany + op%3, Kids: []api.Pattern{somePattern(r, classes, nodes-1)}}
	}
	left := 1 + r.Intn(nodes-2)
	return api.Pattern{Op: api.PatThen + r.Intn(2), Kids: []api.Pattern{somePattern(r, classes, left), somePattern(r, classes, nodes-1-left)}}
}

func TestP7_10RabinScott(t *testing.T) {
	r := rand.New(rand.NewSource(710))
	for range 1000 {
		n := someNfa(r, 3, 6)
		classes := 1 + r.Intn(3)
		d, e := dfa.Build(n, classes)
		if e != api.OK {
			t.Fatal(n, e)
		}
		for _, l := range listsUpTo(classes, 4) {
			if dfa.Takes(d, l) != nfa.Takes(n, l) {
				t.Fatal(n, classes, l)
			}
		}
	}
}

// wide is an Nfa of MaxStates states, with edges by all classes, and Free ones, and so many unlike sets.
func wide(sets int) api.Nfa {
	n := api.Nfa{States: make([]api.NfaState, api.MaxStates), End: sets - 1}
	all := make([]int, api.MaxClasses)
	for c := range all {
		all[c] = c
	}
	for i := range sets - 1 {
		n.States[i].Edges = []api.Edge{{Classes: all, To: i + 1}}
		n.States[i].Free = row(api.MaxStates - 1)
	}
	n.States[sets-1].Free = row(api.MaxStates - 1)
	for i := sets; i < api.MaxStates; i++ {
		n.States[i].Free = row(i - 1)
		n.States[i].Edges = slices.Repeat([]api.Edge{{Classes: all, To: i}}, 4)
	}
	n.States[sets].Free = nil
	return n
}

func TestP7_2SoonDone(t *testing.T) {
	if d, e := dfa.Build(wide(1023), api.MaxClasses); e != api.OK || len(d.Next) != 1023 {
		t.Error(len(d.Next), e)
	}
	if _, e := dfa.Build(wide(1024), api.MaxClasses); e != api.ErrMany {
		t.Error(e)
	}
}
