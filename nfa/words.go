package nfa

import (
	"math/bits"
	"slices"

	"kerf/api"
)

// mostWords is how many words are told at most.
const mostWords = 1000

// Useful: P6.5.
func Useful(n api.Nfa) []int {
	if !good(n) {
		return nil
	}
	m := runner(n)
	there, back := m.reached(n.Start), m.turned().reached(n.End)
	var useful []int
	for s := range n.States {
		if there[s] && back[s] {
			useful = append(useful, s)
		}
	}
	return useful
}

// reached is, by state, whether one comes there from a state.
func (m *machine) reached(from int) []bool {
	far := m.distances(from)
	there := make([]bool, len(far))
	for s, d := range far {
		there[s] = d >= 0
	}
	return there
}

// distances are, by state, how many classes it takes to come there from a state; -1, if one never does.
func (m *machine) distances(from int) []int {
	far := make([]int, len(m.in))
	for s := range far {
		far[s] = -1
	}
	fresh := func(state int) bool { return far[state] < 0 }
	now := m.begin([]int{from})
	for d := 0; len(now) > 0; d++ {
		for _, s := range now {
			far[s] = d
		}
		now = m.step(nil, now, all, fresh)
	}
	return far
}

// Least: P6.5.
//
// From state to state only those are kept that still have the shortest way to End, so that each state is
// looked at once.
func Least(n api.Nfa) ([]int, bool) {
	if !good(n) {
		return nil, false
	}
	m := runner(n)
	far := m.turned().distances(n.End)
	if far[n.Start] < 0 {
		return nil, false
	}
	var word []int
	now := m.begin([]int{n.Start})
	for left := far[n.Start] - 1; left >= 0; left-- {
		fits := func(state int) bool { return far[state] == left }
		class := bits.TrailingZeros64(uint64(m.onward(now, fits)))
		word = append(word, class)
		now = m.step(nil, now, only(class), fits)
	}
	return word, true
}

// onward are the classes by which one comes from the states of now to one that fits.
func (m *machine) onward(now []int, fits func(state int) bool) mask {
	var by mask
	for _, s := range now {
		for _, w := range m.ways[s] {
			if fits(w.to) {
				by |= w.by
			}
		}
	}
	return by
}

// Words: P6.5.
//
// No class is spelt behind which End could not be met at the length: each try ends in a word.
func Words(n api.Nfa, long, most int) [][]int {
	if !good(n) || long < 0 || most < 1 {
		return nil
	}
	long, most = min(long, api.MaxLong), min(most, mostWords)
	m := runner(n)
	ends := m.turned().circles(n.End, long)
	var words [][]int
	var spell func(word, now []int, left int)
	spell = func(word, now []int, left int) {
		if left == 0 {
			words = append(words, slices.Clone(word))
			return
		}
		fits := func(state int) bool { return ends[left-1][state] }
		for by := m.onward(now, fits); by != 0 && len(words) < most; by &= by - 1 {
			class := bits.TrailingZeros64(uint64(by))
			var next []int
			// Behind the last class no state matters any more.
			if left > 1 {
				next = m.step(nil, now, only(class), fits)
			}
			spell(append(word, class), next, left-1)
		}
	}
	for length := 0; length <= long && len(words) < most; length++ {
		if ends[length][n.Start] {
			spell(nil, m.begin([]int{n.Start}), length)
		}
	}
	return words
}

// circles are, by number of classes from 0 to long, and by state, whether one comes there from a state by
// just so many.
func (m *machine) circles(from, long int) [][]bool {
	circles := make([][]bool, long+1)
	now := m.begin([]int{from})
	for d := range circles {
		circles[d] = make([]bool, len(m.in))
		for _, s := range now {
			circles[d][s] = true
		}
		now = m.step(nil, now, all, every)
	}
	return circles
}
