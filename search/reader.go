package search

import (
	"kerf/api"
	"kerf/nfa"
)

// none is the number of the set of no states.
const none = 0

// way leads from a set of states by a class.
type way struct{ set, class int }

// reader goes by the classes that it reads from set to set of an automaton's states. The sets are numbered as they are
// met, and where a way leads is found but once: of most patterns there are few of both, however long the text is.
type reader struct {
	of      api.Nfa
	always  []int    // what is in each set ahead of a class, beside what one came to
	sets    []string // by their numbers: a bit for each state
	numbers map[string]int
	ways    map[way]int
}

func reading(n api.Nfa, always []int) *reader {
	x := &reader{of: n, always: always, numbers: map[string]int{}, ways: map[way]int{}}
	x.number(nil)
	return x
}

// number is that of a set of states.
func (x *reader) number(states []int) int {
	bits := make([]byte, len(x.of.States)/8+1)
	for _, state := range states {
		bits[state/8] |= 1 << (state % 8)
	}
	n, ok := x.numbers[string(bits)]
	if !ok {
		n = len(x.sets)
		x.sets = append(x.sets, string(bits))
		x.numbers[string(bits)] = n
	}
	return n
}

// begin is the set in which one is ahead of all classes.
func (x *reader) begin() int {
	return x.number(nfa.Closure(x.of, []int{x.of.Start}))
}

// has is whether a state is in a set.
func (x *reader) has(set, state int) bool {
	return x.sets[set][state/8]>>(state%8)&1 == 1
}

// step is the set to which a class leads from another one.
func (x *reader) step(set, class int) int {
	w := way{set, class}
	to, ok := x.ways[w]
	if !ok {
		var states []int
		for state := range x.of.States {
			if x.has(set, state) {
				states = append(states, state)
			}
		}
		to = x.number(nfa.Step(x.of, append(states, x.always...), class))
		x.ways[w] = to
	}
	return to
}

// meet is whether two sets have a state in common.
func meet(a, b string) bool {
	for i := range len(a) {
		if a[i]&b[i] != 0 {
			return true
		}
	}
	return false
}
