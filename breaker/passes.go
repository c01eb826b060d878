package breaker

import "kerf/api"

// none is what stands for the number of a rule where no rule decides.
const none = -1

// deciders are the numbers of the rules that decide at the places 0 to len(c) of a list of classes.
func (b *Breaker) deciders(c []int) []int {
	numbers := make([]int, len(c)+1)
	numbers[0], numbers[len(c)] = none, none
	behind, states := b.behind(c), starts(b.left)
places:
	for at := 1; at < len(c); at++ {
		step(b.left, states, c[at-1])
		for n, d := range b.left {
			if behind[at]>>n&1 == 1 && takes(d, states[n]) {
				numbers[at] = n
				continue places
			}
		}
		numbers[at] = none
	}
	return numbers
}

// behind has, for each place within c, a bit for each rule whose right automaton takes what stands behind it: no
// rule has a number that is too great for the bits of one word.
func (b *Breaker) behind(c []int) []uint64 {
	taken := make([]uint64, len(c)+1)
	states := starts(b.right)
	for at := len(c) - 1; at > 0; at-- {
		step(b.right, states, c[at])
		for n, d := range b.right {
			if takes(d, states[n]) {
				taken[at] |= 1 << n
			}
		}
	}
	return taken
}

// starts are the states in which the automata of l begin.
func starts(l []api.Dfa) []int { return make([]int, len(l)) }

// step goes on by a class in all automata of l.
func step(l []api.Dfa, states []int, class int) {
	for n, state := range states {
		if state != none {
			states[n] = l[n].Next[state][class]
		}
	}
}

func takes(d api.Dfa, state int) bool { return state != none && d.Take[state] == 1 }
