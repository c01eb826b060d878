package dfa

import (
	"slices"

	"kerf/api"
)

// half is one of two automata that are run side by side. Nowhere is a state of it like others, the last
// one, so that each class leads from each state to one.
type half struct {
	classes int
	states  int
	next    []int32 // by state and class
	take    []int
	back    []int32 // the states from which one comes, by class and the state to which
	ends    []int32 // where those of a class and a state end in back
}

func halfOf(d api.Dfa) *half {
	last := len(d.Next)
	h := &half{classes: d.Classes, states: last + 1, take: append(slices.Clone(d.Take), 0)}
	for s := range h.states {
		for c := range d.Classes {
			to := last
			if s < last && d.Next[s][c] != nowhere {
				to = d.Next[s][c]
			}
			h.next = append(h.next, int32(to))
		}
	}
	return h
}

// turn finds from where one comes, for from to tell.
func (h *half) turn() {
	h.ends = make([]int32, h.classes*h.states+1)
	h.back = make([]int32, len(h.next))
	for i, to := range h.next {
		h.ends[h.slot(i, to)+1]++
	}
	for i := range h.classes * h.states {
		h.ends[i+1] += h.ends[i]
	}
	filled := slices.Clone(h.ends)
	for i, to := range h.next {
		slot := h.slot(i, to)
		h.back[filled[slot]] = int32(i / h.classes)
		filled[slot]++
	}
}

// slot is where in ends those are to be found that come to a state as next[i] does.
func (h *half) slot(i int, to int32) int {
	return i%h.classes*h.states + int(to)
}

// from are the states from which one comes to a state by a class.
func (h *half) from(class int, to int32) []int32 {
	slot := class*h.states + int(to)
	return h.back[h.ends[slot]:h.ends[slot+1]]
}

// pair is a state of each half, and how one came there first: by a class from another pair.
type pair struct {
	a, b  int32
	after int32
	by    int32
}

// pairs are those to which one comes from both starts by the same lists, in the order of the least lists
// that lead there, the shorter ahead.
type pairs struct {
	a, b *half
	list []pair
	met  []int32 // by the two states: the number of their pair and 1; 0, if it is not met
}

func newPairs(a, b *half) *pairs {
	x := &pairs{a: a, b: b, met: make([]int32, a.states*b.states)}
	x.meet(pair{after: -1})
	return x
}

// meet notes a pair, if it is new; its number, and whether it is.
func (x *pairs) meet(p pair) (int, bool) {
	at := int(p.a)*x.b.states + int(p.b)
	if number := x.met[at]; number != 0 {
		return int(number) - 1, false
	}
	x.list = append(x.list, p)
	x.met[at] = int32(len(x.list))
	return len(x.list) - 1, true
}

// step goes from a pair by a class.
func (x *pairs) step(i, class int) (int, bool) {
	p := x.list[i]
	return x.meet(pair{
		a:     x.a.next[int(p.a)*x.a.classes+class],
		b:     x.b.next[int(p.b)*x.b.classes+class],
		after: int32(i),
		by:    int32(class),
	})
}

// all meets every pair.
func (x *pairs) all() {
	for i := 0; i < len(x.list); i++ {
		for c := range x.a.classes {
			x.step(i, c)
		}
	}
}

// take is whether each half takes what led to a pair: 1 or 0.
func (x *pairs) take(i int) (a, b int) {
	p := x.list[i]
	return x.a.take[p.a], x.b.take[p.b]
}

// trail is the list that led to a pair first.
func (x *pairs) trail(i int) []int {
	var back []int
	for p := x.list[i]; p.after >= 0; p = x.list[p.after] {
		back = append(back, int(p.by))
	}
	slices.Reverse(back)
	return back
}

// Same: P7.7.
func Same(a, b api.Dfa) bool {
	if !good(a) || !good(b) || a.Classes != b.Classes {
		return false
	}
	return equal(least(a), least(b))
}

func equal(a, b api.Dfa) bool {
	return slices.Equal(a.Take, b.Take) && slices.EqualFunc(a.Next, b.Next, slices.Equal[[]int])
}

// Apart: P7.7.
func Apart(a, b api.Dfa) ([]int, bool) {
	if !good(a) || !good(b) || a.Classes != b.Classes {
		return nil, false
	}
	// Fewer states make fewer pairs; and where both are the same there is nothing to look for.
	a, b = least(a), least(b)
	if equal(a, b) {
		return nil, false
	}
	x := newPairs(halfOf(a), halfOf(b))
	found := 0
	if p, q := x.take(0); p != q {
		return nil, true
	}
search:
	for i := 0; i < len(x.list); i++ {
		for c := range a.Classes {
			to, fresh := x.step(i, c)
			if !fresh {
				continue
			}
			if p, q := x.take(to); p != q {
				found = to
				break search
			}
		}
	}
	return x.trail(found), true
}
