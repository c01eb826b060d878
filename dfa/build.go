package dfa

import (
	"math/bits"

	"kerf/api"
	"kerf/nfa"
	"kerf/pattern"
)

// Of: P7.2.
func Of(p api.Pattern, classes int) (api.Dfa, api.Errno) {
	if !fits(classes) {
		return api.Dfa{}, api.ErrArg
	}
	if e := pattern.Check(p, classes); e != api.OK {
		return api.Dfa{}, e
	}
	n, e := nfa.Of(p)
	if e != api.OK {
		return api.Dfa{}, e
	}
	return Build(n, classes)
}

// Build: P7.2.
func Build(n api.Nfa, classes int) (api.Dfa, api.Errno) {
	if !fits(classes) {
		return api.Dfa{}, api.ErrArg
	}
	if e, _ := nfa.Check(n); e != api.OK {
		return api.Dfa{}, e
	}
	d, ok := newSets(n, classes).automaton(n)
	if !ok {
		return api.Dfa{}, api.ErrMany
	}
	return least(d), api.OK
}

// mask is a set of classes, one a bit: there are no more than 64.
type mask uint64

// way leads to a state by any of some classes.
type way struct {
	by mask
	to int
}

// sets are the sets of states in which an automaton can be. A step is made by all classes at once: each
// state that is reached has the classes by which it is.
type sets struct {
	classes int
	ways    [][]way
	free    [][]int
	by      []mask
	queue   []int  // states whose classes have yet to go on
	waits   []bool // by state: whether it is in the queue
	rows    [][]byte
	numbers map[string]int // by set, a bit a state
	keys    []string
}

func newSets(n api.Nfa, classes int) *sets {
	count := len(n.States)
	x := &sets{
		classes: classes,
		ways:    make([][]way, count),
		free:    make([][]int, count),
		by:      make([]mask, count),
		waits:   make([]bool, count),
		numbers: map[string]int{},
	}
	for range classes {
		x.rows = append(x.rows, make([]byte, (count+7)/8))
	}
	// What comes several times is to cost as much as what comes once.
	for s, state := range n.States {
		for _, e := range state.Edges {
			x.reach(e.To, masked(e.Classes, classes))
		}
		for _, to := range x.emptied() {
			x.ways[s] = append(x.ways[s], way{by: x.by[to], to: to})
			x.by[to] = 0
		}
		for _, to := range state.Free {
			x.reach(to, 1)
		}
		for _, to := range x.emptied() {
			x.free[s] = append(x.free[s], to)
			x.by[to] = 0
		}
	}
	return x
}

// masked are those of the classes that are below a limit.
func masked(classes []int, limit int) mask {
	var m mask
	for _, c := range classes {
		if c < limit {
			m |= 1 << c
		}
	}
	return m
}

// reach notes that one comes to a state by some classes.
func (x *sets) reach(state int, by mask) {
	if by&^x.by[state] == 0 {
		return
	}
	x.by[state] |= by
	if !x.waits[state] {
		x.waits[state] = true
		x.queue = append(x.queue, state)
	}
}

// emptied is what the queue held; it holds nothing then.
func (x *sets) emptied() []int {
	held := x.queue
	for _, s := range held {
		x.waits[s] = false
	}
	x.queue = x.queue[:0]
	return held
}

// goOn carries classes along by Free, and lays what is reached by each class into its row.
func (x *sets) goOn() {
	for i := 0; i < len(x.queue); i++ {
		s := x.queue[i]
		x.waits[s] = false
		for _, to := range x.free[s] {
			x.reach(to, x.by[s])
		}
	}
	x.queue = x.queue[:0]
	for _, row := range x.rows {
		clear(row)
	}
	for s, by := range x.by {
		for ; by != 0; by &= by - 1 {
			x.rows[bits.TrailingZeros64(uint64(by))][s/8] |= 1 << (s % 8)
		}
	}
	clear(x.by)
}

// begin makes the first set. It stands in for what one reaches by the class 0.
func (x *sets) begin(start int) {
	x.reach(start, 1)
	x.goOn()
	x.number(x.rows[0])
}

// step makes the sets into which the classes lead from one.
func (x *sets) step(key string) {
	for i := range len(key) {
		for b := key[i]; b != 0; b &= b - 1 {
			for _, w := range x.ways[i*8+bits.TrailingZeros8(b)] {
				x.reach(w.to, w.by)
			}
		}
	}
	x.goOn()
}

// number is that of a set: nowhere, if it is empty.
func (x *sets) number(row []byte) int {
	if i, ok := x.numbers[string(row)]; ok {
		return i
	}
	for _, b := range row {
		if b != 0 {
			key := string(row)
			x.numbers[key] = len(x.keys)
			x.keys = append(x.keys, key)
			return len(x.keys) - 1
		}
	}
	return nowhere
}

// automaton has the sets for states; there is none, if they are too many.
func (x *sets) automaton(n api.Nfa) (api.Dfa, bool) {
	d := api.Dfa{Classes: x.classes}
	x.begin(n.Start)
	for i := 0; i < len(x.keys); i++ {
		key := x.keys[i]
		x.step(key)
		row := make([]int, x.classes)
		for c := range row {
			row[c] = x.number(x.rows[c])
			if len(x.keys) > api.MaxSets {
				return api.Dfa{}, false
			}
		}
		d.Next = append(d.Next, row)
		d.Take = append(d.Take, int(key[n.End/8]>>(n.End%8)&1))
	}
	return d, true
}
