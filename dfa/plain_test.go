package dfa_test

import (
	"fmt"
	"math/rand"
	"slices"

	"kerf/api"
	"kerf/nfa"
)

// What stands here is the chapter spelt out as plainly as can be, with nothing of the package: the tests hold the package against it.

func text(x any) string { return fmt.Sprint(x) }

func set(classes ...int) api.Pattern { return api.Pattern{Op: api.PatSet, Classes: classes} }

func then(kids ...api.Pattern) api.Pattern { return api.Pattern{Op: api.PatThen, Kids: kids} }

func or(kids ...api.Pattern) api.Pattern { return api.Pattern{Op: api.PatOr, Kids: kids} }

func many(kid api.Pattern) api.Pattern {
	return api.Pattern{Op: api.PatMany, Kids: []api.Pattern{kid}}
}

func some(kid api.Pattern) api.Pattern {
	return api.Pattern{Op: api.PatSome, Kids: []api.Pattern{kid}}
}

var empty = api.Pattern{}

// row is a state's next ones.
func row(to ...int) []int { return to }

// automaton is of as many classes as its first row has.
func automaton(take []int, next ...[]int) api.Dfa {
	return api.Dfa{Classes: len(next[0]), Next: next, Take: take}
}

// made is of so many states and classes, by what is said of each.
func made(states, classes int, next func(s, c int) int, take func(s int) bool) api.Dfa {
	d := api.Dfa{Classes: classes}
	for s := range states {
		r := make([]int, classes)
		for c := range r {
			r[c] = next(s, c)
		}
		d.Next = append(d.Next, r)
		d.Take = append(d.Take, 0)
		if take(s) {
			d.Take[s] = 1
		}
	}
	return d
}

// chain takes one list alone, that of states - 1 times the class 0.
func chain(states, classes int) api.Dfa {
	return made(states, classes, func(s, c int) int {
		if c > 0 || s == states-1 {
			return -1
		}
		return s + 1
	}, func(s int) bool { return s == states-1 })
}

// counter takes the lists in which the number of one class is a multiple of size; a class that is barred leads nowhere.
func counter(size, classes, class, barred int) api.Dfa {
	return made(size, classes, func(s, c int) int {
		switch c {
		case class:
			return (s + 1) % size
		case barred:
			return -1
		}
		return s
	}, func(s int) bool { return s == 0 })
}

func plainGood(d api.Dfa) bool {
	states := len(d.Next)
	if d.Classes < 1 || d.Classes > 64 || states < 1 || states > 1024 || len(d.Take) != states {
		return false
	}
	for s := range states {
		if d.Take[s] < 0 || d.Take[s] > 1 || len(d.Next[s]) != d.Classes {
			return false
		}
		for _, to := range d.Next[s] {
			if to < -1 || to > states-1 {
				return false
			}
		}
	}
	return true
}

// plainTakes is whether c leads from s to what is taken.
func plainTakes(d api.Dfa, s int, c []int) bool {
	if s == -1 {
		return false
	}
	if len(c) == 0 {
		return d.Take[s] == 1
	}
	if c[0] < 0 || c[0] >= d.Classes {
		return false
	}
	return plainTakes(d, d.Next[s][c[0]], c[1:])
}

// listsUpTo are all lists of so many classes at most, the shorter ahead, then the less.
func listsUpTo(classes, long int) [][]int {
	all := [][]int{nil}
	for from := 0; long > 0; long-- {
		to := len(all)
		for _, l := range all[from:to] {
			for c := range classes {
				all = append(all, append(slices.Clone(l), c))
			}
		}
		from = to
	}
	return all
}

// plainKinds tells the states, and nowhere behind them, apart by lists of one class more each time: two have the same kind, if the same lists lead from them to what is taken.
func plainKinds(d api.Dfa) []int {
	nowhere := len(d.Next)
	kinds := append(slices.Clone(d.Take), 0)
	for count := -1; ; {
		seen := map[string]int{}
		next := make([]int, len(kinds))
		for s := range kinds {
			sign := []int{kinds[s]}
			for c := range d.Classes {
				to := nowhere
				if s < nowhere && d.Next[s][c] >= 0 {
					to = d.Next[s][c]
				}
				sign = append(sign, kinds[to])
			}
			if _, ok := seen[text(sign)]; !ok {
				seen[text(sign)] = len(seen)
			}
			next[s] = seen[text(sign)]
		}
		kinds = next
		if len(seen) == count {
			return kinds
		}
		count = len(seen)
	}
}

// plainLeast is in the least form, of however many states.
func plainLeast(d api.Dfa) api.Dfa {
	kinds := plainKinds(d)
	dead := kinds[len(d.Next)]
	out := api.Dfa{Classes: d.Classes}
	numbers := map[int]int{kinds[0]: 0}
	for met := []int{0}; len(met) > 0; met = met[1:] {
		r := make([]int, d.Classes)
		for c, to := range d.Next[met[0]] {
			r[c] = -1
			if to < 0 || kinds[to] == dead {
				continue
			}
			if _, ok := numbers[kinds[to]]; !ok {
				numbers[kinds[to]] = len(numbers)
				met = append(met, to)
			}
			r[c] = numbers[kinds[to]]
		}
		out.Next = append(out.Next, r)
		out.Take = append(out.Take, d.Take[met[0]])
	}
	return out
}

// plainBuild goes from set to set by chapter 6's own calls; with it, how many unlike ones there are.
func plainBuild(n api.Nfa, classes int) (api.Dfa, int) {
	d := api.Dfa{Classes: classes}
	sets := [][]int{nfa.Closure(n, []int{n.Start})}
	for i := 0; i < len(sets); i++ {
		r := make([]int, classes)
		for c := range r {
			to := nfa.Step(n, sets[i], c)
			r[c] = slices.IndexFunc(sets, func(l []int) bool { return slices.Equal(l, to) })
			if len(to) > 0 && r[c] < 0 {
				r[c] = len(sets)
				sets = append(sets, to)
			}
		}
		d.Next = append(d.Next, r)
		d.Take = append(d.Take, 0)
		if slices.Contains(sets[i], n.End) {
			d.Take[i] = 1
		}
	}
	return plainLeast(d), len(sets)
}

// plainJoin has a state for each pair of states, nowhere among them, and is in the least form.
func plainJoin(a, b api.Dfa, how int) api.Dfa {
	na, nb := len(a.Next)+1, len(b.Next)+1
	step := func(d api.Dfa, s, c int) int {
		if s == len(d.Next) || d.Next[s][c] < 0 {
			return len(d.Next)
		}
		return d.Next[s][c]
	}
	return plainLeast(made(na*nb, a.Classes, func(s, c int) int {
		return step(a, s/nb, c)*nb + step(b, s%nb, c)
	}, func(s int) bool {
		x := s/nb < len(a.Next) && a.Take[s/nb] == 1
		y := s%nb < len(b.Next) && b.Take[s%nb] == 1
		return [4]bool{x || y, x && y, x && !y, x != y}[how]
	}))
}

// plainApart goes through all lists that are long enough to tell such automata apart.
func plainApart(a, b api.Dfa) ([]int, bool) {
	for _, l := range listsUpTo(a.Classes, len(a.Next)+len(b.Next)) {
		if plainTakes(a, 0, l) != plainTakes(b, 0, l) {
			return l, true
		}
	}
	return nil, false
}

func plainNumber(n int) []byte {
	if n < 128 {
		return []byte{byte(n)}
	}
	return append([]byte{byte(n&127 | 128)}, plainNumber(n>>7)...)
}

func plainPut(d api.Dfa) []byte {
	numbers := []int{d.Classes, len(d.Next)}
	for s := range d.Next {
		numbers = append(numbers, d.Take[s])
		for _, to := range d.Next[s] {
			numbers = append(numbers, to+1)
		}
	}
	var out []byte
	for _, n := range numbers {
		out = append(out, plainNumber(n)...)
	}
	return out
}

// plainGet reads numbers however long they are, and asks whether what they make has just these bytes.
func plainGet(b []byte) (api.Dfa, bool) {
	var numbers []int
	n, shift := 0, 0
	for _, x := range b {
		n += int(x&127) << min(shift, 40)
		shift += 7
		if x < 128 {
			numbers = append(numbers, n)
			n, shift = 0, 0
		}
	}
	if len(numbers) < 2 || numbers[1] > 1024 || numbers[0] > 64 || len(numbers) != 2+numbers[1]*(1+numbers[0]) {
		return api.Dfa{}, false
	}
	d := api.Dfa{Classes: numbers[0]}
	for rest := numbers[2:]; len(rest) > 0; rest = rest[1+d.Classes:] {
		d.Take = append(d.Take, rest[0])
		r := slices.Clone(rest[1 : 1+d.Classes])
		for c := range r {
			r[c]--
		}
		d.Next = append(d.Next, r)
	}
	return d, plainGood(d) && slices.Equal(plainPut(d), b)
}

// someDfa is of up to so many states; sparse ones have many classes that lead nowhere.
func someDfa(r *rand.Rand, classes, states int) api.Dfa {
	count, sparse := 1+r.Intn(states), r.Intn(4)
	takes := 1 + r.Intn(4)
	return made(count, classes, func(s, c int) int {
		if r.Intn(4) < sparse {
			return -1
		}
		return r.Intn(count)
	}, func(s int) bool { return r.Intn(takes+1) == 0 })
}

func someNfa(r *rand.Rand, classes, states int) api.Nfa {
	n := api.Nfa{States: make([]api.NfaState, 1+r.Intn(states))}
	count := len(n.States)
	n.Start, n.End = r.Intn(count), r.Intn(count)
	for i := range n.States {
		s := &n.States[i]
		for range r.Intn(4) {
			e := api.Edge{To: r.Intn(count)}
			for c := range classes {
				if r.Intn(classes) == 0 {
					e.Classes = append(e.Classes, c)
				}
			}
			s.Edges = append(s.Edges, e)
		}
		for range r.Intn(3) * r.Intn(2) {
			s.Free = append(s.Free, r.Intn(count))
		}
	}
	return n
}

func someList(r *rand.Rand, classes, long int) []int {
	l := make([]int, r.Intn(long+1))
	for i := range l {
		l[i] = r.Intn(classes)
	}
	return l
}

// spoil overwrites all of an answer, spare room too; whether each thing was there just once.
func spoil(d api.Dfa) bool {
	lists := append(slices.Clone(d.Next[:cap(d.Next)]), d.Take)
	ok := spoilLists(lists)
	for i := range d.Next[:cap(d.Next)] {
		d.Next[:cap(d.Next)][i] = []int{-7}
	}
	return ok
}

func spoilLists(lists [][]int) bool {
	for i, l := range lists {
		l = l[:cap(l)]
		for k := range l {
			l[k] = -100 - i
		}
	}
	for i, l := range lists {
		for _, x := range l[:cap(l)] {
			if x != -100-i {
				return false
			}
		}
	}
	return true
}
