package pattern

import (
	"slices"

	"kerf/api"
)

// Matches: P5.4.
func Matches(p api.Pattern, c []int) bool {
	ends := Ends(p, c)
	return len(ends) > 0 && ends[len(ends)-1] == len(c)
}

// Ends: P5.5.
func Ends(p api.Pattern, c []int) []int {
	if !good(p) {
		return nil
	}
	return lengths(p, len(c), func(i int) int { return c[i] })
}

// Starts: P5.5.
func Starts(p api.Pattern, c []int) []int {
	if !good(p) {
		return nil
	}
	starts := lengths(Reverse(p), len(c), func(i int) int { return c[len(c)-1-i] })
	for i, n := range starts {
		starts[i] = len(c) - n
	}
	slices.Reverse(starts)
	return starts
}

// Empty: P5.6.
func Empty(p api.Pattern) bool {
	return good(p) && grown(p).empty
}

// Firsts: P5.6.
func Firsts(p api.Pattern) []int {
	if !good(p) {
		return nil
	}
	var firsts []int
	var gather func(s *spot)
	gather = func(s *spot) {
		// What stands beside a Kid that matches nothing begins no list.
		if s.void {
			return
		}
		firsts = append(firsts, s.classes...)
		for _, kid := range s.kids {
			gather(kid)
			if s.op == api.PatThen && !kid.empty {
				return
			}
		}
	}
	gather(grown(p))
	slices.Sort(firsts)
	return slices.Compact(firsts)
}

// spot is a node of a good pattern with what is known of it, and what has become of it while a list is read.
type spot struct {
	op      int
	classes []int
	kids    []*spot
	empty   bool // matches the empty list
	void    bool // matches no list
	live    bool // a set in it has taken the class that was read last
	full    bool // a list that it matches ends with that class
}

func grown(p api.Pattern) *spot {
	var grow func(p api.Pattern) *spot
	grow = func(p api.Pattern) *spot {
		s := &spot{op: p.Op, classes: p.Classes}
		for _, kid := range p.Kids {
			s.kids = append(s.kids, grow(kid))
		}
		s.learn()
		return s
	}
	return grow(p)
}

// learn finds from the Kids whether the empty list, and whether any list, is matched.
func (s *spot) learn() {
	empties, voids := 0, 0
	for _, kid := range s.kids {
		if kid.empty {
			empties++
		}
		if kid.void {
			voids++
		}
	}
	switch s.op {
	case api.PatEmpty, api.PatMany, api.PatMay:
		s.empty = true
	case api.PatSet:
		s.void = len(s.classes) == 0
	case api.PatThen:
		s.empty, s.void = empties == len(s.kids), voids > 0
	case api.PatOr, api.PatSome:
		s.empty, s.void = empties > 0, voids == len(s.kids)
	}
}

// lengths are the numbers n for which p matches the first n of the count classes that at gives.
//
// The places in p that have taken the class read last are kept, and all go on at once: a PatMany in a
// PatMany costs no more than any other node, however deep they stand.
func lengths(p api.Pattern, count int, at func(i int) int) []int {
	root, step := grown(p), stepper()
	var found []int
	if root.empty {
		found = append(found, 0)
	}
	for i := 0; i < count && (i == 0 || root.live); i++ {
		step(root, at(i), i == 0)
		if root.full {
			found = append(found, i+1)
		}
	}
	return found
}

// stepper is what gives a class to every place that may take it; begin is whether a list may begin there.
func stepper() func(s *spot, class int, begin bool) {
	var step func(s *spot, class int, begin bool)
	step = func(s *spot, class int, begin bool) {
		if !begin && !s.live {
			return
		}
		s.live, s.full = false, false
		if s.op == api.PatSet && begin {
			_, s.full = slices.BinarySearch(s.classes, class)
			s.live = s.full
		}
		for _, kid := range s.kids {
			// A step changes where the Kid has ended, and the next one begins behind where it had.
			done := kid.full
			step(kid, class, begin || done && s.again())
			s.live = s.live || kid.live
			if s.op == api.PatThen {
				s.full = kid.full || s.full && kid.empty
				begin = done || begin && kid.empty
			} else {
				s.full = s.full || kid.full
			}
		}
	}
	return step
}

// again is whether a Kid may begin where it has ended.
func (s *spot) again() bool {
	return s.op == api.PatMany || s.op == api.PatSome
}
