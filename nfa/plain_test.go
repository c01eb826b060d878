package nfa_test

import (
	"fmt"
	"math/rand"
	"slices"

	"kerf/api"
)

// What stands here is the chapter spelt out as plainly as can be, with nothing of the package: the tests hold the package against it.

func set(classes ...int) api.Pattern { return api.Pattern{Op: api.PatSet, Classes: classes} }

func then(kids ...api.Pattern) api.Pattern { return api.Pattern{Op: api.PatThen, Kids: kids} }

func or(kids ...api.Pattern) api.Pattern { return api.Pattern{Op: api.PatOr, Kids: kids} }

func many(kid api.Pattern) api.Pattern {
	return api.Pattern{Op: api.PatMany, Kids: []api.Pattern{kid}}
}

func some(kid api.Pattern) api.Pattern {
	return api.Pattern{Op: api.PatSome, Kids: []api.Pattern{kid}}
}

func may(kid api.Pattern) api.Pattern {
	return api.Pattern{Op: api.PatMay, Kids: []api.Pattern{kid}}
}

var empty = api.Pattern{}

// edge and state are short for what the tests make by hand.
func edge(to int, classes ...int) api.Edge { return api.Edge{Classes: classes, To: to} }

func state(edges ...api.Edge) api.NfaState { return api.NfaState{Edges: edges} }

func free(to ...int) api.NfaState { return api.NfaState{Free: to} }

func automaton(start, end int, states ...api.NfaState) api.Nfa {
	return api.Nfa{States: states, Start: start, End: end}
}

// text tells nil and an empty list alike.
func text(n any) string { return fmt.Sprint(n) }

func plainCheck(n api.Nfa) (api.Errno, int) {
	if len(n.States) > 4096 {
		return api.ErrMany, 0
	}
	is := func(i int) bool { return 0 <= i && i <= len(n.States)-1 }
	if !is(n.Start) || !is(n.End) {
		return api.ErrStart, 0
	}
	for i, s := range n.States {
		wrong := false
		for _, e := range s.Edges {
			wrong = wrong || !is(e.To)
			for j, c := range e.Classes {
				wrong = wrong || c < 0 || c > 63 || j > 0 && e.Classes[j-1] >= c
			}
		}
		for _, f := range s.Free {
			wrong = wrong || !is(f)
		}
		if wrong {
			return api.ErrState, i
		}
	}
	return api.OK, 0
}

func isGood(n api.Nfa) bool {
	e, _ := plainCheck(n)
	return e == api.OK
}

// plainClosure lets states in until a whole round lets in no more.
func plainClosure(n api.Nfa, l []int) []int {
	in := make([]bool, len(n.States))
	for _, s := range l {
		if s >= 0 && s < len(in) {
			in[s] = true
		}
	}
	for more := true; more; {
		more = false
		for i, s := range n.States {
			for _, f := range s.Free {
				if in[i] && !in[f] {
					in[f], more = true, true
				}
			}
		}
	}
	var out []int
	for i := range in {
		if in[i] {
			out = append(out, i)
		}
	}
	return out
}

func plainStep(n api.Nfa, l []int, class int) []int {
	var to []int
	for _, s := range plainClosure(n, l) {
		for _, e := range n.States[s].Edges {
			if slices.Contains(e.Classes, class) {
				to = append(to, e.To)
			}
		}
	}
	return plainClosure(n, to)
}

// plainTakes tries every way, and keeps in mind where it has been.
func plainTakes(n api.Nfa, c []int) bool {
	type place struct{ state, at int }
	been := map[place]int{}
	var try func(p place) bool
	try = func(p place) bool {
		if been[p] > 0 {
			return false
		}
		been[p] = 1
		if p.state == n.End && p.at == len(c) {
			return true
		}
		for _, f := range n.States[p.state].Free {
			if try(place{f, p.at}) {
				return true
			}
		}
		for _, e := range n.States[p.state].Edges {
			if p.at < len(c) && slices.Contains(e.Classes, c[p.at]) && try(place{e.To, p.at + 1}) {
				return true
			}
		}
		return false
	}
	return try(place{n.Start, 0})
}

func plainEnds(n api.Nfa, c []int, at int) []int {
	var out []int
	for k := at; at >= 0 && k <= len(c); k++ {
		if plainTakes(n, c[at:k]) {
			out = append(out, k)
		}
	}
	return out
}

// plainReverse asks, for each state, all others for what leads to it.
func plainReverse(n api.Nfa) api.Nfa {
	r := api.Nfa{Start: n.End, End: n.Start}
	for t := range n.States {
		var s api.NfaState
		for i, from := range n.States {
			for _, e := range from.Edges {
				if e.To == t {
					s.Edges = append(s.Edges, api.Edge{Classes: slices.Clone(e.Classes), To: i})
				}
			}
			for _, f := range from.Free {
				if f == t {
					s.Free = append(s.Free, i)
				}
			}
		}
		r.States = append(r.States, s)
	}
	return r
}

// plainUseful goes by what is reached from each state.
func plainUseful(n api.Nfa) []int {
	reach := make([][]bool, len(n.States))
	for i, s := range n.States {
		reach[i] = make([]bool, len(n.States))
		reach[i][i] = true
		for _, e := range s.Edges {
			reach[i][e.To] = reach[i][e.To] || len(e.Classes) > 0
		}
		for _, f := range s.Free {
			reach[i][f] = true
		}
	}
	for k := range reach {
		for i := range reach {
			for j := range reach {
				reach[i][j] = reach[i][j] || reach[i][k] && reach[k][j]
			}
		}
	}
	var out []int
	for i := range reach {
		if reach[n.Start][i] && reach[i][n.End] {
			out = append(out, i)
		}
	}
	return out
}

// lists are all lists of the classes 0 to below classes with at most so many, by their length, the least first.
func lists(classes, most int) [][]int {
	out := [][]int{nil}
	for from := 0; most > 0; most-- {
		to := len(out)
		for _, l := range out[from:to] {
			for c := range classes {
				out = append(out, append(slices.Clone(l), c))
			}
		}
		from = to
	}
	return out
}

// plainWords asks of every list of the classes 0 to below classes whether it is taken.
func plainWords(n api.Nfa, classes, long, most int) [][]int {
	var out [][]int
	if long < 0 {
		return nil
	}
	for _, l := range lists(classes, min(long, 12)) {
		if len(out) < most && len(out) < 1000 && plainTakes(n, l) {
			out = append(out, l)
		}
	}
	return out
}

// moved is the states with by added to their numbers.
func moved(states []api.NfaState, by int) []api.NfaState {
	var out []api.NfaState
	for _, s := range states {
		var m api.NfaState
		for _, e := range s.Edges {
			m.Edges = append(m.Edges, api.Edge{Classes: slices.Clone(e.Classes), To: e.To + by})
		}
		for _, f := range s.Free {
			m.Free = append(m.Free, f+by)
		}
		out = append(out, m)
	}
	return out
}

func plainOr(a, b api.Nfa) api.Nfa {
	la, lb := len(a.States), len(b.States)
	if !isGood(a) || !isGood(b) || la+lb+2 > 4096 {
		return api.Nfa{}
	}
	states := []api.NfaState{free(a.Start+1, b.Start+1+la)}
	states = append(states, moved(a.States, 1)...)
	states = append(states, moved(b.States, 1+la)...)
	states = append(states, api.NfaState{})
	last := la + lb + 1
	states[1+a.End].Free = append(states[1+a.End].Free, last)
	states[1+la+b.End].Free = append(states[1+la+b.End].Free, last)
	return api.Nfa{States: states, Start: 0, End: last}
}

func plainThen(a, b api.Nfa) api.Nfa {
	la := len(a.States)
	if !isGood(a) || !isGood(b) || la+len(b.States) > 4096 {
		return api.Nfa{}
	}
	states := append(moved(a.States, 0), moved(b.States, la)...)
	states[a.End].Free = append(states[a.End].Free, b.Start+la)
	return api.Nfa{States: states, Start: a.Start, End: b.End + la}
}

// plainOf makes an automaton of each node by itself, and moves the numbers of what lies within.
func plainOf(p api.Pattern) api.Nfa {
	link := func(n *api.Nfa, from int, to ...int) {
		n.States[from].Free = append(n.States[from].Free, to...)
	}
	switch p.Op {
	case api.PatEmpty:
		return automaton(0, 1, free(1), state())
	case api.PatSet:
		return automaton(0, 1, state(edge(1, p.Classes...)), state())
	case api.PatThen:
		n := plainOf(p.Kids[0])
		for _, k := range p.Kids[1:] {
			n = plainThen(n, plainOf(k))
		}
		return n
	case api.PatOr:
		n := automaton(0, 0, state())
		var outs []int
		for _, k := range p.Kids {
			kid, by := plainOf(k), len(n.States)
			n.States = append(n.States, moved(kid.States, by)...)
			link(&n, 0, kid.Start+by)
			outs = append(outs, kid.End+by)
		}
		n.End = len(n.States)
		for _, o := range outs {
			link(&n, o, n.End)
		}
		n.States = append(n.States, api.NfaState{})
		return n
	}
	kid := plainOf(p.Kids[0])
	last := len(kid.States) + 1
	n := automaton(0, last, append(append([]api.NfaState{{}}, moved(kid.States, 1)...), api.NfaState{})...)
	switch p.Op {
	case api.PatMany:
		link(&n, 0, kid.Start+1, last)
		link(&n, kid.End+1, kid.Start+1, last)
	case api.PatSome:
		link(&n, 0, kid.Start+1)
		link(&n, kid.End+1, kid.Start+1, last)
	case api.PatMay:
		link(&n, 0, kid.Start+1, last)
		link(&n, kid.End+1, last)
	}
	return n
}

// someSet is some of the classes 0 to below classes, each once in few of them.
func someSet(r *rand.Rand, classes, few int) []int {
	var l []int
	for c := range classes {
		if r.Intn(few) == 0 {
			l = append(l, c)
		}
	}
	return l
}

// somePattern is a good one, with at most about so many nodes.
func somePattern(r *rand.Rand, classes, size int) api.Pattern {
	if size <= 1 || r.Intn(8) == 0 {
		if r.Intn(6) == 0 {
			return empty
		}
		return set(someSet(r, classes, 2)...)
	}
	switch n := 2 + r.Intn(2); r.Intn(7) {
	case 0, 1, 2, 3:
		p := api.Pattern{Op: api.PatThen + r.Intn(2)}
		for range n {
			p.Kids = append(p.Kids, somePattern(r, classes, size/n))
		}
		return p
	default:
		return api.Pattern{Op: api.PatMany + r.Intn(3), Kids: []api.Pattern{somePattern(r, classes, size-1)}}
	}
}

// someNfa is a good automaton with at most so many states.
func someNfa(r *rand.Rand, classes, most int) api.Nfa {
	count := 1 + r.Intn(most)
	n := api.Nfa{Start: r.Intn(count), End: r.Intn(count)}
	for range count {
		var s api.NfaState
		for range r.Intn(4) {
			s.Edges = append(s.Edges, api.Edge{Classes: someSet(r, classes, 3), To: r.Intn(count)})
		}
		for range r.Intn(3) {
			s.Free = append(s.Free, r.Intn(count))
		}
		if r.Intn(2) == 0 {
			s.Free = nil
		}
		n.States = append(n.States, s)
	}
	return n
}

func someList(r *rand.Rand, classes, most int) []int {
	var l []int
	for range r.Intn(most + 1) {
		l = append(l, r.Intn(classes))
	}
	return l
}

func backwards(l []int) []int {
	l = slices.Clone(l)
	slices.Reverse(l)
	return l
}

// chain is an automaton of so many states, each with an edge by class to the next.
func chain(states, class int) api.Nfa {
	n := api.Nfa{States: make([]api.NfaState, states), End: states - 1}
	for i := range states - 1 {
		n.States[i].Edges = []api.Edge{edge(i+1, class)}
	}
	return n
}

// intsOf and edgesOf are all lists that n holds.
func intsOf(n api.Nfa) [][]int {
	var out [][]int
	for _, s := range n.States {
		out = append(out, s.Free)
		for _, e := range s.Edges {
			out = append(out, e.Classes)
		}
	}
	return out
}

func edgesOf(n api.Nfa) [][]api.Edge {
	var out [][]api.Edge
	for _, s := range n.States {
		out = append(out, s.Edges)
	}
	return out
}

// apart writes over all lists, their spare room too, and is whether none wrote into another.
func apart(l [][]int) bool {
	k := 0
	for _, x := range l {
		for i := range x[:cap(x)] {
			x[:cap(x)][i] = k
			k++
		}
	}
	k = 0
	for _, x := range l {
		for _, v := range x[:cap(x)] {
			if v != k {
				return false
			}
			k++
		}
	}
	return true
}

// spoil writes over all that n holds, spare room too, and is whether no two of its lists share any.
func spoil(n api.Nfa) bool {
	ok := apart(intsOf(n))
	k := 0
	for _, l := range edgesOf(n) {
		for i := range l[:cap(l)] {
			l[:cap(l)][i] = api.Edge{To: k}
			k++
		}
	}
	k = 0
	for _, l := range edgesOf(n) {
		for _, e := range l[:cap(l)] {
			ok = ok && e.To == k
			k++
		}
	}
	states := n.States[:cap(n.States)]
	for i := range states {
		states[i] = api.NfaState{Free: []int{-7}}
	}
	return ok
}
