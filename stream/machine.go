package stream

import (
	"slices"

	"kerf/api"
	"kerf/nfa"
)

// machine is an automaton as it is run, class by class. (nfa.Step looks through the whole automaton at each step:
// for every rune of a text that is too dear.)
type machine struct {
	api.Nfa
	useful []bool // by state: whether some list that is taken leads through it
	in     []int  // by state: the number of the set that let it in last
	sets   int    // how many sets there have been
}

// machineOf is that of a pattern which pattern.Check takes.
func machineOf(p api.Pattern) *machine {
	n, _ := nfa.Of(p)
	m := &machine{Nfa: n, useful: make([]bool, len(n.States)), in: make([]int, len(n.States))}
	for _, s := range nfa.Useful(n) {
		m.useful[s] = true
	}
	return m
}

// begin lays into set the states to which one comes without a class.
func (m *machine) begin(set []int) []int {
	m.sets++
	return m.closed(m.let(set, m.Start))
}

// step lays into set the states, rising, to which one comes from those of now by a class; if anew, those of begin
// too. All of them are useful ones: where there is none, nothing that may come is taken.
func (m *machine) step(set, now []int, class int, anew bool) []int {
	m.sets++
	if anew {
		set = m.let(set, m.Start)
	}
	for _, s := range now {
		for _, e := range m.States[s].Edges {
			if _, is := slices.BinarySearch(e.Classes, class); is {
				set = m.let(set, e.To)
			}
		}
	}
	return m.closed(set)
}

// let lets a state into the set that is being made, if it is useful, and not in it.
func (m *machine) let(set []int, state int) []int {
	if !m.useful[state] || m.in[state] == m.sets {
		return set
	}
	m.in[state] = m.sets
	return append(set, state)
}

// closed goes through set while it grows by Free. States that one only passes on the way are left out then: they
// would tell sets apart that go on alike.
func (m *machine) closed(set []int) []int {
	for i := 0; i < len(set); i++ {
		for _, to := range m.States[set[i]].Free {
			set = m.let(set, to)
		}
	}
	set = slices.DeleteFunc(set, func(s int) bool { return s != m.End && len(m.States[s].Edges) == 0 })
	slices.Sort(set)
	return set
}

// takes is whether what led to these states is taken.
func (m *machine) takes(states []int) bool {
	_, is := slices.BinarySearch(states, m.End)
	return is
}
