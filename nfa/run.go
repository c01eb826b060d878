package nfa

import (
	"slices"

	"kerf/api"
)

// Closure: P6.2.
func Closure(n api.Nfa, l []int) []int {
	if !good(n) {
		return nil
	}
	states := runner(n).begin(l)
	slices.Sort(states)
	return states
}

// Step: P6.2.
func Step(n api.Nfa, l []int, class int) []int {
	if !good(n) {
		return nil
	}
	m := runner(n)
	states := m.step(nil, m.begin(l), only(class), every)
	slices.Sort(states)
	return states
}

// Takes: P6.3.
func Takes(n api.Nfa, c []int) bool {
	end, ok := Longest(n, c, 0)
	return ok && end == len(c)
}

// Ends: P6.3.
func Ends(n api.Nfa, c []int, at int) []int {
	if !good(n) || at < 0 || at > len(c) {
		return nil
	}
	m := runner(n)
	var ends, spare []int
	now := m.begin([]int{n.Start})
	for k := at; len(now) > 0; k++ {
		// What was let in last are the states of now.
		if m.lastIn(n.End) {
			ends = append(ends, k)
		}
		if k == len(c) {
			break
		}
		now, spare = m.step(spare[:0], now, only(c[k]), every), now
	}
	return ends
}

// Longest: P6.3.
func Longest(n api.Nfa, c []int, at int) (int, bool) {
	ends := Ends(n, c, at)
	if len(ends) == 0 {
		return 0, false
	}
	return ends[len(ends)-1], true
}

// mask is a set of classes, one a bit: there are no more than 64.
type mask uint64

// all are all classes.
const all = ^mask(0)

// only is the set of one class; of a number that is no class it is the empty one.
func only(class int) mask {
	if class < 0 || class >= api.MaxClasses {
		return 0
	}
	return 1 << class
}

// way leads to a state by any of some classes.
type way struct {
	by mask
	to int
}

// machine is a good automaton as it is run: from a state to another there is one way at most, and one
// Free; so that what comes several times costs as much as what comes once.
type machine struct {
	ways [][]way
	free [][]int
	in   []int // by state: the number of the set that let it in last
	sets int   // how many sets there have been
}

func runner(n api.Nfa) *machine {
	count, edges, frees := len(n.States), 0, 0
	for _, s := range n.States {
		edges += len(s.Edges)
		frees += len(s.Free)
	}
	m := &machine{ways: make([][]way, count), free: make([][]int, count), in: make([]int, count)}
	ways, free := make([]way, 0, edges), make([]int, 0, frees)
	place := make([]int, count)
	for i, s := range n.States {
		from := len(ways)
		m.sets++
		for _, e := range s.Edges {
			if m.let(e.To) {
				place[e.To] = len(ways)
				ways = append(ways, way{to: e.To})
			}
			for _, c := range e.Classes {
				ways[place[e.To]].by |= only(c)
			}
		}
		m.ways[i] = ways[from:]
		from = len(free)
		m.sets++
		for _, to := range s.Free {
			if m.let(to) {
				free = append(free, to)
			}
		}
		m.free[i] = free[from:]
	}
	return m
}

// turned is the machine with all ways, and Free ones, turned round.
func (m *machine) turned() *machine {
	count := len(m.in)
	t := &machine{ways: make([][]way, count), free: make([][]int, count), in: make([]int, count)}
	for i := range count {
		for _, w := range m.ways[i] {
			t.ways[w.to] = append(t.ways[w.to], way{by: w.by, to: i})
		}
		for _, to := range m.free[i] {
			t.free[to] = append(t.free[to], i)
		}
	}
	return t
}

// let lets a state into the set that is being made, and is whether it was not in it.
func (m *machine) let(state int) bool {
	if m.in[state] == m.sets {
		return false
	}
	m.in[state] = m.sets
	return true
}

// lastIn is whether a state is in the set that was made last.
func (m *machine) lastIn(state int) bool {
	return m.in[state] == m.sets
}

// begin is the set of the states of l, and of those to which one comes from them by Free.
func (m *machine) begin(l []int) []int {
	m.sets++
	var set []int
	for _, s := range l {
		if within(s, len(m.in)) && m.let(s) {
			set = append(set, s)
		}
	}
	return m.closed(set, every)
}

// step lays into set where one comes from the states of now by some class of by, and then by Free, as far
// as the states fit.
func (m *machine) step(set, now []int, by mask, fits func(state int) bool) []int {
	m.sets++
	for _, s := range now {
		for _, w := range m.ways[s] {
			if w.by&by != 0 && fits(w.to) && m.let(w.to) {
				set = append(set, w.to)
			}
		}
	}
	return m.closed(set, fits)
}

// closed goes through set while it grows.
func (m *machine) closed(set []int, fits func(state int) bool) []int {
	for i := 0; i < len(set); i++ {
		for _, to := range m.free[set[i]] {
			if fits(to) && m.let(to) {
				set = append(set, to)
			}
		}
	}
	return set
}

// every state fits.
func every(state int) bool { return true }
