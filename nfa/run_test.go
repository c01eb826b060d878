package nfa_test

import (
	"math"
	"math/rand"
	"slices"
	"testing"

	"kerf/api"
	"kerf/nfa"
	"kerf/pattern"
)

// ring has Free ones in a ring 0, 1, 2, a state that is Free to itself, and an edge out of the ring.
var ring = automaton(0, 4,
	free(1),
	api.NfaState{Edges: []api.Edge{edge(3, 5, 6)}, Free: []int{2, 2}},
	free(0),
	api.NfaState{Edges: []api.Edge{edge(4, 5), edge(0, 6)}, Free: []int{3}},
	state())

func TestP6_2Closure(t *testing.T) {
	for _, c := range []struct {
		l    []int
		want string
	}{
		{nil, "[]"},
		{[]int{}, "[]"},
		{[]int{0}, "[0 1 2]"},
		{[]int{2}, "[0 1 2]"},
		{[]int{3}, "[3]"},
		{[]int{4}, "[4]"},
		{[]int{4, 3}, "[3 4]"},
		{[]int{4, 4, 1, 1, 4}, "[0 1 2 4]"},
		{[]int{-1, 5, 99, math.MaxInt, math.MinInt}, "[]"},
		{[]int{5, 4, -1, 3, 4}, "[3 4]"},
	} {
		if got := nfa.Closure(ring, c.l); text(got) != c.want {
			t.Error(c.l, got)
		}
	}
}

func TestP6_2Step(t *testing.T) {
	for _, c := range []struct {
		l     []int
		class int
		want  string
	}{
		{nil, 5, "[]"},
		{[]int{0}, 5, "[3]"},
		{[]int{2, 2, 0}, 6, "[3]"},
		{[]int{3}, 5, "[4]"},
		{[]int{3}, 6, "[0 1 2]"},
		{[]int{3, 1}, 6, "[0 1 2 3]"},
		{[]int{1, 3}, 5, "[3 4]"},
		{[]int{4}, 5, "[]"},
		{[]int{0, 3}, 7, "[]"},
		{[]int{0, 3}, -1, "[]"},
		{[]int{0, 3}, 64, "[]"},
		{[]int{0, 3}, 69, "[]"},
		{[]int{0, 3}, math.MaxInt, "[]"},
		{[]int{0, 3}, math.MinInt, "[]"},
		{[]int{-1, 5}, 5, "[]"},
		{[]int{9, 3}, 5, "[4]"},
	} {
		if got := nfa.Step(ring, c.l, c.class); text(got) != c.want {
			t.Error(c.l, c.class, got)
		}
	}
	edges := automaton(0, 1, state(edge(1, 0, 63), edge(1)), state())
	if text(nfa.Step(edges, []int{0}, 63)) != "[1]" || text(nfa.Step(edges, []int{0}, 0)) != "[1]" || text(nfa.Step(edges, []int{0}, 1)) != "[]" {
		t.Error("the first and the last class")
	}
}

func TestP6_3Takes(t *testing.T) {
	for _, c := range []struct {
		n    api.Nfa
		c    []int
		want bool
	}{
		{ring, []int{5, 5}, true},
		{ring, []int{6, 5}, true},
		{ring, []int{5, 6, 6, 5}, true},
		{ring, nil, false},
		{ring, []int{5}, false},
		{ring, []int{5, 5, 5}, false},
		{ring, []int{5, -1}, false},
		{ring, []int{5, 64 + 5}, false},
		{ring, []int{5, 7}, false},
		{automaton(0, 0, state()), nil, true},
		{automaton(0, 0, state()), []int{}, true},
		{automaton(0, 0, state()), []int{0}, false},
		{automaton(0, 1, state(), state()), nil, false},
		{automaton(0, 1, free(1), state()), nil, true},
		{automaton(1, 0, free(1), state()), nil, false},
		{automaton(1, 1, state(), state(edge(1, 3))), []int{3, 3, 3}, true},
		{automaton(0, 1, state(edge(1)), state()), nil, false},
		{automaton(0, 1, state(edge(1)), state()), []int{0}, false},
	} {
		if got := nfa.Takes(c.n, c.c); got != c.want {
			t.Error(c.n, c.c, got)
		}
	}
}

func TestP6_3EndsLongest(t *testing.T) {
	n := made(t, many(set(1)))
	gaps := made(t, or(set(1), then(set(1), set(1), set(1))))
	c := []int{1, 1, 1, 2, -1, 1}
	for _, x := range []struct {
		n       api.Nfa
		c       []int
		at      int
		ends    string
		longest int
		ok      bool
	}{
		{n, c, 0, "[0 1 2 3]", 3, true},
		{n, c, 2, "[2 3]", 3, true},
		{n, c, 3, "[3]", 3, true},
		{n, c, 4, "[4]", 4, true},
		{n, c, 5, "[5 6]", 6, true},
		{n, c, 6, "[6]", 6, true},
		{n, c, 7, "[]", 0, false},
		{n, c, math.MaxInt, "[]", 0, false},
		{n, c, -1, "[]", 0, false},
		{n, c, math.MinInt, "[]", 0, false},
		{n, nil, 0, "[0]", 0, true},
		{n, nil, 1, "[]", 0, false},
		{n, nil, -1, "[]", 0, false},
		{gaps, c, 0, "[1 3]", 3, true},
		{gaps, c, 1, "[2]", 2, true},
		{gaps, c, 3, "[]", 0, false},
		{gaps, c, 6, "[]", 0, false},
	} {
		ends := nfa.Ends(x.n, x.c, x.at)
		longest, ok := nfa.Longest(x.n, x.c, x.at)
		if text(ends) != x.ends || longest != x.longest || ok != x.ok {
			t.Error(x.c, x.at, ends, longest, ok)
		}
	}
}

func TestRunsAgainstPlain(t *testing.T) {
	r := rand.New(rand.NewSource(63))
	taken := 0
	for range 6000 {
		n := someNfa(r, 3, 6)
		l := someList(r, 8, 4)
		for i := range l {
			l[i]--
		}
		if got, want := nfa.Closure(n, l), plainClosure(n, l); text(got) != text(want) {
			t.Fatal("Closure", n, l, got, want)
		}
		class := r.Intn(5) - 1
		if got, want := nfa.Step(n, l, class), plainStep(n, l, class); text(got) != text(want) {
			t.Fatal("Step", n, l, class, got, want)
		}
		c := someList(r, 4, 6)
		if got, want := nfa.Takes(n, c), plainTakes(n, c); got != want {
			t.Fatal("Takes", n, c, got, want)
		} else if got {
			taken++
		}
		at := r.Intn(len(c)+3) - 1
		want := plainEnds(n, c, at)
		if got := nfa.Ends(n, c, at); text(got) != text(want) {
			t.Fatal("Ends", n, c, at, got, want)
		}
		longest, ok := nfa.Longest(n, c, at)
		if ok != (len(want) > 0) || ok && longest != slices.Max(want) || !ok && longest != 0 {
			t.Fatal("Longest", n, c, at, longest, ok, want)
		}
	}
	if taken < 300 {
		t.Error(taken)
	}
}

func TestP6_8Kleene(t *testing.T) {
	r := rand.New(rand.NewSource(68))
	all := lists(3, 4)
	for range 500 {
		p := somePattern(r, 3, 1+r.Intn(10))
		n := made(t, p)
		for _, c := range all {
			if nfa.Takes(n, c) != pattern.Matches(p, c) {
				t.Fatal(p, c)
			}
		}
		c := someList(r, 3, 9)
		if got, want := nfa.Ends(n, c, 0), pattern.Ends(p, c); text(got) != text(want) {
			t.Fatal(p, c, got, want)
		}
	}
}

func TestP6_9TurnedRound(t *testing.T) {
	r := rand.New(rand.NewSource(69))
	all := lists(3, 4)
	for range 400 {
		n := someNfa(r, 3, 6)
		turned := nfa.Reverse(n)
		again := nfa.Reverse(turned)
		for _, c := range all {
			if nfa.Takes(turned, backwards(c)) != nfa.Takes(n, c) || nfa.Takes(again, c) != nfa.Takes(n, c) {
				t.Fatal(n, c)
			}
		}
	}
}

func TestP6_10Joined(t *testing.T) {
	r := rand.New(rand.NewSource(70))
	all := lists(2, 5)
	for range 400 {
		a, b := someNfa(r, 2, 5), someNfa(r, 2, 5)
		or, then := nfa.Or(a, b), nfa.Then(a, b)
		for _, c := range all {
			if nfa.Takes(or, c) != (nfa.Takes(a, c) || nfa.Takes(b, c)) {
				t.Fatal("Or", a, b, c)
			}
			cut := false
			for k := range len(c) + 1 {
				cut = cut || nfa.Takes(a, c[:k]) && nfa.Takes(b, c[k:])
			}
			if nfa.Takes(then, c) != cut {
				t.Fatal("Then", a, b, c)
			}
		}
	}
}

func TestP6_11StepByStep(t *testing.T) {
	r := rand.New(rand.NewSource(71))
	for range 3000 {
		n := someNfa(r, 3, 6)
		c := someList(r, 3, 6)
		now := nfa.Closure(n, []int{n.Start})
		for _, class := range c {
			now = nfa.Step(n, now, class)
			if text(nfa.Closure(n, now)) != text(now) || !slices.IsSorted(now) {
				t.Fatal("not closed", n, now)
			}
		}
		if slices.Contains(now, n.End) != nfa.Takes(n, c) {
			t.Fatal(n, c)
		}
	}
}

func TestSoonDone(t *testing.T) {
	long := slices.Repeat([]int{1}, 20000)
	// Rings in rings, as many as a pattern may have.
	p := set(1)
	for range api.MaxTree - 1 {
		p = many(p)
	}
	rings := made(t, p)
	if !nfa.Takes(rings, long[:2000]) || len(nfa.Useful(rings)) != api.MaxStates {
		t.Error("rings")
	}
	// One state with as many edges and Free ones as there is patience for, all the same.
	crowded := automaton(0, 0, api.NfaState{Edges: slices.Repeat([]api.Edge{edge(0, 1, 2)}, 200000), Free: make([]int, 200000)})
	if k, ok := nfa.Longest(crowded, long, 0); k != len(long) || !ok {
		t.Error("crowded", k)
	}
	if w := nfa.Words(crowded, 12, 5000); len(w) != 1000 {
		t.Error("crowded", len(w))
	}
	// Each state leads to all those behind it, by every class.
	var all []int
	for c := range api.MaxClasses {
		all = append(all, c)
	}
	dense := api.Nfa{States: make([]api.NfaState, 600), End: 599}
	for i := range dense.States {
		for to := i + 1; to < len(dense.States); to++ {
			dense.States[i].Edges = append(dense.States[i].Edges, api.Edge{Classes: all, To: to})
			dense.States[i].Free = append(dense.States[i].Free, to)
		}
	}
	if w := nfa.Words(dense, 12, 1000); len(w) != 1000 || text(w[999]) != "[14 38]" {
		t.Error("dense", len(w))
	}
}
