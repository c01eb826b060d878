package search

import (
	"math"

	"kerf/api"
	"kerf/nfa"
	"kerf/pattern"
	"kerf/props"
	"kerf/utf"
)

// Longest: P22.4.
func Longest(d *props.Db, p api.Pattern, s string, at int) (int, bool) {
	n, ok := automaton(d, p)
	if !ok || !utf.Is(s, at) {
		return 0, false
	}
	x := reading(n, nil)
	now, to := x.begin(), 0
runes:
	for from, class := range d.Each(s[at:]) {
		now = x.step(now, class)
		switch {
		case now == none:
			break runes
		case x.has(now, n.End):
			to = utf.On(s, at+from)
		}
	}
	return to, to > at
}

// Classes: P22.4.
func Classes(d *props.Db, p api.Pattern, s string) []api.Match {
	n, ok := automaton(d, p)
	if !ok {
		return nil
	}
	var edges, classes []int
	for at, class := range d.Each(s) {
		edges, classes = append(edges, at), append(classes, class)
	}
	edges = append(edges, len(s))
	var list []api.Match
	run := runs(n, classes)
	for from := 0; from < len(classes); {
		to := run(from)
		if to == from {
			from++
			continue
		}
		list = append(list, api.Match{From: edges[from], To: edges[to]})
		from = to
	}
	return list
}

// runs tells of a number where the longest list that is taken ends, of the classes from that number on; where there is
// none but the empty one, the number itself.
//
// First the classes are read from their end, to know of each place by which states one comes to an end that lies behind
// it: no run goes farther than what it finds.
func runs(n api.Nfa, classes []int) func(from int) int {
	x, back := reading(n, nil), nfa.Reverse(n)
	y := reading(back, []int{back.Start})
	rests := make([]int, len(classes)+1)
	for i := len(classes) - 1; i >= 0; i-- {
		rests[i] = y.step(rests[i+1], classes[i])
	}
	begin := x.begin()
	return func(at int) int {
		for now := begin; meet(x.sets[now], y.sets[rests[at]]); at++ {
			now = x.step(now, classes[at])
		}
		return at
	}
}

// automaton is that of a pattern, over the classes of a database, and whether there is one.
func automaton(d *props.Db, p api.Pattern) (api.Nfa, bool) {
	if d == nil || pattern.Check(p, math.MaxInt32) != api.OK {
		return api.Nfa{}, false
	}
	n, e := nfa.Of(known(p))
	return n, e == api.OK
}

// known is a good pattern without the classes that no rune has: to automata there are none so high.
func known(p api.Pattern) api.Pattern {
	kept := api.Pattern{Op: p.Op}
	for _, class := range p.Classes {
		if class < api.MaxClasses {
			kept.Classes = append(kept.Classes, class)
		}
	}
	for _, kid := range p.Kids {
		kept.Kids = append(kept.Kids, known(kid))
	}
	return kept
}
