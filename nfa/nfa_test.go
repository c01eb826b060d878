package nfa_test

import (
	"math"
	"math/rand"
	"slices"
	"sync"
	"testing"

	"kerf/api"
	"kerf/nfa"
	"kerf/pattern"
)

func made(t *testing.T, p api.Pattern) api.Nfa {
	t.Helper()
	n, e := nfa.Of(p)
	if e != api.OK {
		t.Fatal(e)
	}
	return n
}

func TestNumbers(t *testing.T) {
	if api.ErrState != 60 || api.ErrStart != 61 || api.MaxStates != 4096 || api.MaxLong != 12 {
		t.Error("the chapter has other numbers")
	}
}

func TestP6_1Check(t *testing.T) {
	ok := func(states int) api.Nfa { return api.Nfa{States: make([]api.NfaState, states)} }
	with := func(n api.Nfa, at int, s api.NfaState) api.Nfa {
		n.States = slices.Clone(n.States)
		n.States[at] = s
		return n
	}
	placed := func(n api.Nfa, start, end int) api.Nfa {
		n.Start, n.End = start, end
		return n
	}
	bad := state(edge(9, 1))
	for _, c := range []struct {
		n    api.Nfa
		want api.Errno
		at   int
	}{
		{api.Nfa{}, api.ErrStart, 0},
		{ok(1), api.OK, 0},
		{ok(api.MaxStates), api.OK, 0},
		{ok(api.MaxStates + 1), api.ErrMany, 0},
		{placed(ok(3), 2, 2), api.OK, 0},
		{placed(ok(3), -1, 0), api.ErrStart, 0},
		{placed(ok(3), 3, 0), api.ErrStart, 0},
		{placed(ok(3), 4, 0), api.ErrStart, 0},
		{placed(ok(3), 0, -1), api.ErrStart, 0},
		{placed(ok(3), 0, 3), api.ErrStart, 0},
		{placed(ok(3), 0, math.MaxInt), api.ErrStart, 0},
		{placed(ok(3), math.MinInt, 0), api.ErrStart, 0},
		{with(ok(3), 1, state(edge(9, 1))), api.ErrState, 1},
		{with(ok(3), 1, state(edge(3, 1))), api.ErrState, 1},
		{with(ok(3), 1, state(edge(-1, 1))), api.ErrState, 1},
		{with(ok(3), 1, state(edge(3))), api.ErrState, 1},
		{with(ok(3), 1, state(edge(2))), api.OK, 0},
		{with(ok(3), 2, state(edge(1, 0, 63))), api.OK, 0},
		{with(ok(3), 2, state(edge(1, 64))), api.ErrState, 2},
		{with(ok(3), 2, state(edge(1, 5, 64))), api.ErrState, 2},
		{with(ok(3), 2, state(edge(1, -1))), api.ErrState, 2},
		{with(ok(3), 2, state(edge(1, 2, 1))), api.ErrState, 2},
		{with(ok(3), 2, state(edge(1, 2, 2))), api.ErrState, 2},
		{with(ok(3), 2, state(edge(1, 2), edge(0, 2, 1))), api.ErrState, 2},
		{with(ok(3), 0, free(0, 1, 2, 2)), api.OK, 0},
		{with(ok(3), 0, free(1, 3)), api.ErrState, 0},
		{with(ok(3), 2, free(-1)), api.ErrState, 2},
		{with(ok(3), 2, free(math.MinInt)), api.ErrState, 2},
		// Two faults: the one that is named first, and of two states the first.
		{placed(ok(api.MaxStates+1), -1, 0), api.ErrMany, 0},
		{with(ok(api.MaxStates+1), 1, bad), api.ErrMany, 0},
		{placed(with(ok(3), 1, bad), 0, 3), api.ErrStart, 0},
		{with(with(ok(3), 2, bad), 1, free(7)), api.ErrState, 1},
		{with(with(ok(3), 1, bad), 2, free(7)), api.ErrState, 1},
		{with(ok(api.MaxStates), api.MaxStates-1, free(api.MaxStates)), api.ErrState, api.MaxStates - 1},
	} {
		if e, at := nfa.Check(c.n); e != c.want || at != c.at {
			t.Errorf("Check of %d states from %d to %d: %d %d, not %d %d", len(c.n.States), c.n.Start, c.n.End, e, at, c.want, c.at)
		}
		if (c.want != api.OK) != tellsNothing(t, c.n) {
			t.Errorf("%d states from %d to %d, %d: what the other calls tell", len(c.n.States), c.n.Start, c.n.End, c.want)
		}
	}
}

// tellsNothing is whether the other calls answer of n what they answer of one that is not good. (Those of a good one with a state answer more.)
func tellsNothing(t *testing.T, n api.Nfa) bool {
	one := automaton(0, 0, state())
	l := []int{0, 1, 2}
	none := []int{
		len(nfa.Closure(n, l)), len(nfa.Step(n, l, 1)), len(nfa.Ends(n, nil, 0)), len(nfa.Useful(n)), len(nfa.Words(n, 1, 1)),
		len(nfa.Reverse(n).States), len(nfa.Or(n, one).States), len(nfa.Or(one, n).States), len(nfa.Then(n, one).States), len(nfa.Then(one, n).States),
	}
	for _, x := range []api.Nfa{nfa.Reverse(n), nfa.Or(n, one), nfa.Or(one, n), nfa.Then(n, one), nfa.Then(one, n)} {
		if len(x.States) == 0 && (x.Start != 0 || x.End != 0) {
			t.Error("not the zero Nfa")
		}
	}
	k, longest := nfa.Longest(n, nil, 0)
	w, least := nfa.Least(n)
	if !longest && k != 0 || !least && len(w) != 0 {
		t.Error("something beside false", k, w)
	}
	return !nfa.Takes(n, nil) && !longest && !least && slices.Max(none) == 0
}

func TestP6_1NotGood(t *testing.T) {
	// What these take would be seen, if their fault were not.
	full := automaton(0, 1, api.NfaState{Edges: []api.Edge{edge(1, 0)}, Free: []int{1}}, free(0))
	if tellsNothing(t, full) || len(nfa.Step(full, []int{0}, 0)) != 2 {
		t.Fatal("a good one")
	}
	for name, n := range map[string]api.Nfa{
		"edge":    automaton(0, 1, full.States[0], full.States[1], state(edge(3, 1))),
		"classes": automaton(0, 1, full.States[0], full.States[1], state(edge(0, 1, 1))),
		"class":   automaton(0, 1, full.States[0], full.States[1], state(edge(0, 64))),
		"below":   automaton(0, 1, full.States[0], full.States[1], state(edge(0, -1))),
		"free":    automaton(0, 1, full.States[0], full.States[1], free(-1)),
		"start":   automaton(2, 1, full.States...),
		"end":     automaton(0, 2, full.States...),
		"many":    {States: append(slices.Clone(full.States), make([]api.NfaState, api.MaxStates-1)...), End: 1},
	} {
		if !tellsNothing(t, n) || len(nfa.Step(n, []int{0}, 0)) != 0 {
			t.Error(name)
		}
	}
}

func TestP6_1AgainstPlain(t *testing.T) {
	r := rand.New(rand.NewSource(61))
	seen := map[api.Errno]int{}
	for range 20000 {
		n := someNfa(r, 4, 4)
		for range r.Intn(3) {
			s := &n.States[r.Intn(len(n.States))]
			switch r.Intn(5) {
			case 0:
				n.Start = r.Intn(7) - 1
			case 1:
				n.End = r.Intn(7) - 1
			case 2:
				s.Free = append(s.Free, r.Intn(7)-1)
			case 3:
				s.Edges = append(s.Edges, edge(r.Intn(7)-1, 3))
			case 4:
				s.Edges = append(s.Edges, edge(0, r.Intn(4)-1, r.Intn(4), 60+r.Intn(6)))
			}
		}
		e, at := nfa.Check(n)
		want, wantAt := plainCheck(n)
		if e != want || at != wantAt {
			t.Fatal(n, e, at, want, wantAt)
		}
		seen[e]++
		if e != api.OK && !tellsNothing(t, n) {
			t.Fatal(n)
		}
	}
	if seen[api.OK] < 1000 || seen[api.ErrStart] < 1000 || seen[api.ErrState] < 1000 {
		t.Error(seen)
	}
}

func TestP6_4Reverse(t *testing.T) {
	n := automaton(0, 1,
		api.NfaState{Edges: []api.Edge{edge(1, 5), edge(1, 2), edge(2), edge(0, 7)}, Free: []int{1, 1, 2}},
		api.NfaState{Edges: []api.Edge{edge(1, 4), edge(2, 1, 3)}, Free: []int{0}},
		api.NfaState{Edges: []api.Edge{edge(1, 9)}, Free: []int{2, 1}})
	want := "{[{[{[7] 0}] [1]} {[{[5] 0} {[2] 0} {[4] 1} {[9] 2}] [0 0 2]} {[{[] 0} {[1 3] 1}] [0 2]}] 1 0}"
	if got := nfa.Reverse(n); text(got) != want {
		t.Error(got)
	}
	r := rand.New(rand.NewSource(64))
	for range 3000 {
		n := someNfa(r, 3, 6)
		if got, want := nfa.Reverse(n), plainReverse(n); text(got) != text(want) {
			t.Fatal(n, got, want)
		}
	}
}

func TestP6_6Joined(t *testing.T) {
	a := automaton(1, 0, api.NfaState{Edges: []api.Edge{edge(1, 2)}, Free: []int{0}}, free(0))
	b := automaton(0, 0, state(edge(0, 3)))
	if got := nfa.Or(a, b); text(got) != "{[{[] [2 3]} {[{[2] 2}] [1 4]} {[] [1]} {[{[3] 3}] [4]} {[] []}] 0 4}" {
		t.Error(got)
	}
	if got := nfa.Then(a, b); text(got) != "{[{[{[2] 1}] [0 2]} {[] [0]} {[{[3] 2}] []}] 1 2}" {
		t.Error(got)
	}
	if got := nfa.Then(b, a); text(got) != "{[{[{[3] 0}] [2]} {[{[2] 2}] [1]} {[] [1]}] 0 1}" {
		t.Error(got)
	}
	r := rand.New(rand.NewSource(66))
	for range 3000 {
		a, b := someNfa(r, 3, 5), someNfa(r, 3, 5)
		if got, want := nfa.Or(a, b), plainOr(a, b); text(got) != text(want) {
			t.Fatal(a, b, got, want)
		}
		if got, want := nfa.Then(a, b), plainThen(a, b); text(got) != text(want) {
			t.Fatal(a, b, got, want)
		}
	}
}

func TestP6_6MaxStates(t *testing.T) {
	for _, c := range []struct{ a, b, or, then int }{
		{2047, 2047, 4096, 4094},
		{2047, 2048, 0, 4095},
		{2048, 2048, 0, 4096},
		{2048, 2049, 0, 0},
		{1, 4093, 4096, 4094},
		{1, 4094, 0, 4095},
		{1, 4095, 0, 4096},
		{1, 4096, 0, 0},
		{4096, 4096, 0, 0},
	} {
		a, b := chain(c.a, 1), chain(c.b, 2)
		or, then := nfa.Or(a, b), nfa.Then(a, b)
		if len(or.States) != c.or || len(then.States) != c.then {
			t.Error(c, len(or.States), len(then.States))
		}
		if text(or) != text(plainOr(a, b)) || text(then) != text(plainThen(a, b)) {
			t.Error(c, "laid otherwise")
		}
		if e, at := nfa.Check(or); e != api.OK && c.or > 0 {
			t.Error(c, e, at)
		}
		if e, at := nfa.Check(then); e != api.OK && c.then > 0 {
			t.Error(c, e, at)
		}
	}
}

func TestP6_7Of(t *testing.T) {
	for _, c := range []struct {
		p    api.Pattern
		want string
	}{
		{empty, "{[{[] [1]} {[] []}] 0 1}"},
		{set(), "{[{[{[] 1}] []} {[] []}] 0 1}"},
		{set(1), "{[{[{[1] 1}] []} {[] []}] 0 1}"},
		{set(0, 63), "{[{[{[0 63] 1}] []} {[] []}] 0 1}"},
		{then(set(1), set(2), empty), "{[{[{[1] 1}] []} {[] [2]} {[{[2] 3}] []} {[] [4]} {[] [5]} {[] []}] 0 5}"},
		{or(set(1), empty), "{[{[] [1 3]} {[{[1] 2}] []} {[] [5]} {[] [4]} {[] [5]} {[] []}] 0 5}"},
		{many(set(1)), "{[{[] [1 3]} {[{[1] 2}] []} {[] [1 3]} {[] []}] 0 3}"},
		{some(set(1)), "{[{[] [1]} {[{[1] 2}] []} {[] [1 3]} {[] []}] 0 3}"},
		{may(set(1)), "{[{[] [1 3]} {[{[1] 2}] []} {[] [3]} {[] []}] 0 3}"},
		{many(empty), "{[{[] [1 3]} {[] [2]} {[] [1 3]} {[] []}] 0 3}"},
		{many(many(set(1))), "{[{[] [1 5]} {[] [2 4]} {[{[1] 3}] []} {[] [2 4]} {[] [1 5]} {[] []}] 0 5}"},
		{some(then(may(set(1)), set(2))), "{[{[] [1]} {[] [2 4]} {[{[1] 3}] []} {[] [4]} {[] [5]} {[{[2] 6}] []} {[] [1 7]} {[] []}] 0 7}"},
		{then(or(set(1), set(2)), many(set(3))), "{[{[] [1 3]} {[{[1] 2}] []} {[] [5]} {[{[2] 4}] []} {[] [5]} {[] [6]} {[] [7 9]} {[{[3] 8}] []} {[] [7 9]} {[] []}] 0 9}"},
	} {
		if got := made(t, c.p); text(got) != c.want {
			t.Error(c.p, got)
		}
	}
	r := rand.New(rand.NewSource(67))
	for range 4000 {
		p := somePattern(r, 3, 1+r.Intn(12))
		if got, want := made(t, p), plainOf(p); text(got) != text(want) {
			t.Fatal(p, got, want)
		}
	}
}

// deep is so many nodes, one in the other, the last PatEmpty.
func deep(nodes int) api.Pattern {
	p := empty
	for range nodes - 1 {
		p = many(p)
	}
	return p
}

func TestP6_7Refused(t *testing.T) {
	endless := api.Pattern{Op: api.PatMany, Kids: make([]api.Pattern, 1)}
	endless.Kids[0] = endless
	wide := api.Pattern{Op: api.PatOr, Kids: make([]api.Pattern, api.MaxTree-1)}
	for _, c := range []struct {
		p      api.Pattern
		want   api.Errno
		states int
	}{
		{api.Pattern{Op: 9}, api.ErrForm, 0},
		{api.Pattern{Op: -1}, api.ErrForm, 0},
		{api.Pattern{Op: api.PatEmpty, Classes: []int{1}}, api.ErrForm, 0},
		{then(), api.ErrForm, 0},
		{then(set(1)), api.ErrForm, 0},
		{or(set(1)), api.ErrForm, 0},
		{api.Pattern{Op: api.PatMany}, api.ErrForm, 0},
		{api.Pattern{Op: api.PatMay, Kids: []api.Pattern{empty, empty}}, api.ErrForm, 0},
		{api.Pattern{Op: api.PatSet, Kids: []api.Pattern{empty}}, api.ErrForm, 0},
		{set(63), api.OK, 2},
		{set(64), api.ErrClass, 0},
		{set(-1), api.ErrClass, 0},
		{set(2, 1), api.ErrClass, 0},
		{many(set(1, 1)), api.ErrClass, 0},
		{then(set(64), api.Pattern{Op: 9}), api.ErrClass, 0},
		{then(api.Pattern{Op: 9}, set(64)), api.ErrForm, 0},
		{deep(api.MaxTree), api.OK, api.MaxStates},
		{deep(api.MaxTree + 1), api.ErrDeep, 0},
		{wide, api.OK, api.MaxStates},
		{or(wide, empty), api.ErrDeep, 0},
		{endless, api.ErrDeep, 0},
	} {
		n, e := nfa.Of(c.p)
		if e != c.want || len(n.States) != c.states || e != pattern.Check(c.p, api.MaxClasses) {
			t.Error(c.want, e, len(n.States))
		}
		if e != api.OK && (n.Start != 0 || n.End != 0) {
			t.Error("not the zero Nfa")
		}
		if f, at := nfa.Check(n); e == api.OK && f != api.OK {
			t.Error(f, at)
		}
	}
}

func TestExamples(t *testing.T) {
	if n := made(t, set(1)); text(n) != "{[{[{[1] 1}] []} {[] []}] 0 1}" {
		t.Error(n)
	}
	n := made(t, many(set(1)))
	if text(n) != "{[{[] [1 3]} {[{[1] 2}] []} {[] [1 3]} {[] []}] 0 3}" {
		t.Error(n)
	}
	if !nfa.Takes(n, []int{1, 1}) || nfa.Takes(n, []int{2}) {
		t.Error("Takes")
	}
	if l := nfa.Ends(n, []int{1, 1, 2}, 0); text(l) != "[0 1 2]" {
		t.Error(l)
	}
	if l := nfa.Words(n, 2, 9); text(l) != "[[] [1] [1 1]]" {
		t.Error(l)
	}
	if e, at := nfa.Check(api.Nfa{}); e != api.ErrStart || at != 0 {
		t.Error(e, at)
	}
	if e, at := nfa.Check(automaton(0, 0, state(), state(edge(9, 1)))); e != api.ErrState || at != 1 {
		t.Error(e, at)
	}
}

// roomy is n with spare room behind each list, filled with what no call may touch.
func roomy(n api.Nfa) api.Nfa {
	ints := func(l []int) []int { return append(slices.Clone(l), -9, -9)[:len(l)] }
	m := api.Nfa{Start: n.Start, End: n.End}
	for _, s := range n.States {
		var edges []api.Edge
		for _, e := range s.Edges {
			edges = append(edges, api.Edge{Classes: ints(e.Classes), To: e.To})
		}
		edges = append(edges, edge(-9))[:len(s.Edges)]
		m.States = append(m.States, api.NfaState{Edges: edges, Free: ints(s.Free)})
	}
	m.States = append(m.States, free(-9))[:len(n.States)]
	return m
}

// wholeText tells spare room, too.
func wholeText(n api.Nfa) string {
	out := text(n.States[:cap(n.States)])
	for _, l := range intsOf(n) {
		out += text(l[:cap(l)])
	}
	for _, l := range edgesOf(n) {
		out += text(l[:cap(l)])
	}
	return out
}

// answers are all lists of ints that the calls answer of these.
func answers(a, b api.Nfa, c, l []int) ([][]int, []api.Nfa) {
	least, _ := nfa.Least(a)
	words := nfa.Words(a, 3, 20)
	lists := [][]int{nfa.Closure(a, l), nfa.Step(a, l, 1), nfa.Ends(a, c, 0), nfa.Useful(a), least}
	lists = append(lists, words...)
	return lists, []api.Nfa{nfa.Reverse(a), nfa.Or(a, b), nfa.Or(a, a), nfa.Then(a, b), nfa.Then(a, a)}
}

func TestHandedInAndAnswered(t *testing.T) {
	r := rand.New(rand.NewSource(60))
	for range 500 {
		a, b := roomy(someNfa(r, 3, 4)), roomy(someNfa(r, 3, 4))
		c := append(someList(r, 3, 5), -9)
		l := append(someList(r, 6, 5), -9)
		wasA, wasB, wasC, wasL := wholeText(a), wholeText(b), text(c), text(l)
		lists, joined := answers(a, b, c[:len(c)-1], l[:len(l)-1])
		told := text(lists) + text(joined)
		for _, n := range joined {
			if !spoil(n) {
				t.Fatal("two lists of one answer share memory", a, b)
			}
		}
		if !apart(lists) {
			t.Fatal("two answers share memory", a)
		}
		if wholeText(a) != wasA || wholeText(b) != wasB || text(c) != wasC || text(l) != wasL {
			t.Fatal("what was handed in has changed", wasA, wasB)
		}
		lists, joined = answers(a, b, c[:len(c)-1], l[:len(l)-1])
		if text(lists)+text(joined) != told {
			t.Fatal("another answer", a, b)
		}
	}
}

func TestOfNewMemory(t *testing.T) {
	room := append([]int{1, 2}, -9)
	p := then(many(set(room[:2]...)), set(room[:2]...), or(set(0), empty))
	was := made(t, p)
	told := text(was)
	if !spoil(was) {
		t.Error("two lists share memory")
	}
	if text(room) != "[1 2 -9]" || text(made(t, p)) != told {
		t.Error("the pattern has changed", room)
	}
	p.Kids[1].Classes[0] = 0
	if text(p.Kids[0].Kids[0].Classes) != "[0 2]" {
		t.Fatal("the sets ought to be one list")
	}
}

func TestManyAtOnce(t *testing.T) {
	n := made(t, many(or(set(1), then(set(0), some(set(2))))))
	want, wantJoined := answers(n, n, []int{1, 0, 2}, []int{0, 3})
	var all sync.WaitGroup
	for range 8 {
		all.Go(func() {
			for range 50 {
				lists, joined := answers(n, n, []int{1, 0, 2}, []int{0, 3})
				if text(lists) != text(want) || text(joined) != text(wantJoined) {
					t.Error("another answer")
				}
			}
		})
	}
	all.Wait()
}
