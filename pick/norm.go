package pick

import (
	"cmp"
	"slices"

	"kerf/api"
	"kerf/cursor"
)

// span is a pick by its lesser end and its greater one, and whether it runs back.
type span struct {
	from, to int
	back     bool
}

func spanOf(x api.Pick) span {
	return span{min(x.Anchor, x.Head), max(x.Anchor, x.Head), x.Head < x.Anchor}
}

// pick is the pick that a span stands for; it keeps no column.
func (x span) pick() api.Pick {
	if x.back {
		return api.Pick{Anchor: x.to, Head: x.from, Goal: -1}
	}
	return api.Pick{Anchor: x.from, Head: x.to, Goal: -1}
}

func (x span) empty() bool { return x.from == x.to }

// meets is whether this one meets another, that does not begin ahead of it.
func (x span) meets(y span) bool {
	if x.empty() || y.empty() {
		return y.from <= x.to
	}
	return y.from < x.to
}

// one is a pick, and whether it is the main one.
type one struct {
	api.Pick
	main bool
}

// with is this one and one behind it, that it meets, made one.
func (x one) with(y one) one {
	a, b := spanOf(x.Pick), spanOf(y.Pick)
	back := a.back
	if y.main || a.empty() && !x.main {
		back = b.back
	}
	return one{span{a.from, max(a.to, b.to), back}.pick(), x.main || y.main}
}

// Norm: P24.1.
func Norm(s string, p api.Picks) api.Picks {
	var q api.Picks
	for i, x := range joined(ordered(s, p)) {
		if x.main {
			q.Main = i
		}
		q.L = append(q.L, x.Pick)
	}
	return q
}

// ordered is the picks in their order, with ends that stand in no letter.
func ordered(s string, p api.Picks) []one {
	if p.Main < 0 || p.Main >= len(p.L) {
		p.Main = 0
	}
	l := make([]one, len(p.L))
	for i, x := range snapped(s, p.L) {
		l[i] = one{x, i == p.Main}
	}
	slices.SortStableFunc(l, func(x, y one) int {
		a, b := spanOf(x.Pick), spanOf(y.Pick)
		return cmp.Or(cmp.Compare(a.from, b.from), cmp.Compare(a.to, b.to))
	})
	return l
}

// snapped is picks with ends that stand in no letter. The ends are gone through as they rise, each from the bound found
// last on: it keeps the letters behind it, and so a long row of flags is not counted anew for each end within it.
func snapped(s string, l []api.Pick) []api.Pick {
	l = slices.Clone(l)
	ends := make([]*int, 0, 2*len(l))
	for i := range l {
		ends = append(ends, &l[i].Anchor, &l[i].Head)
	}
	slices.SortFunc(ends, func(a, b *int) int { return cmp.Compare(*a, *b) })
	bound := 0
	for _, end := range ends {
		bound += cursor.Snap(s[bound:], *end-bound)
		*end = bound
	}
	return l
}

// joined is picks that stand in their order, with those that meet made one.
func joined(l []one) []one {
	var made []one
	for _, x := range l {
		last := len(made) - 1
		if last >= 0 && spanOf(made[last].Pick).meets(spanOf(x.Pick)) {
			made[last] = made[last].with(x)
		} else {
			made = append(made, x)
		}
	}
	return made
}
