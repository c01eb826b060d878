package table

import (
	"slices"

	"kerf/api"
)

// Ranges: P3.3.
func (t *Table) Ranges() []api.Ranged {
	if t == nil {
		return nil
	}
	return slices.DeleteFunc(t.whole(), func(g api.Ranged) bool { return g.Class == int(t.rest) })
}

// whole has all numbers from 0 to MaxRune, the rest's too, in as few ranges as can be.
func (t *Table) whole() []api.Ranged {
	parts := make([][]api.Ranged, len(t.blocks)) // of what is alike they are found once
	for k, b := range t.blocks {
		parts[k] = partsOf(b)
	}
	var out []api.Ranged
	for n, k := range t.first {
		base := rune(n * api.BlockSize)
		for _, g := range parts[k] {
			out = joined(out, api.Ranged{Lo: base + g.Lo, Hi: base + g.Hi, Class: g.Class})
		}
	}
	return out
}

// partsOf has the numbers of a block, from 0 on, in as few ranges as can be.
func partsOf(b block) []api.Ranged {
	var out []api.Ranged
	for i, c := range b {
		out = joined(out, api.Ranged{Lo: rune(i), Hi: rune(i), Class: int(c)})
	}
	return out
}

// joined is l with g behind it; g begins where the last of l ends.
func joined(l []api.Ranged, g api.Ranged) []api.Ranged {
	if last := len(l) - 1; last >= 0 && l[last].Class == g.Class {
		l[last].Hi = g.Hi
		return l
	}
	return append(l, g)
}

// Map: P3.5.
func (t *Table) Map(to []int) (*Table, api.Errno) {
	if t == nil {
		return nil, api.OK
	}
	if slices.ContainsFunc(to, func(c int) bool { return !isClass(c) }) || int(t.rest) >= len(to) {
		return nil, api.ErrRange
	}
	l := t.whole()
	for i, g := range l {
		if g.Class >= len(to) {
			return nil, api.ErrRange
		}
		l[i].Class = to[g.Class]
	}
	return made(l, to[t.rest]), api.OK
}

// Pair: P3.6.
func Pair(a, b *Table) (*Table, []api.Two, api.Errno) {
	if a == nil || b == nil {
		return nil, nil, api.OK
	}
	var pairs []api.Two
	known := map[api.Two]int{}
	class := func(p api.Two) int {
		n, ok := known[p]
		if !ok {
			n = len(pairs)
			known[p] = n
			pairs = append(pairs, p)
		}
		return n
	}
	var l []api.Ranged
	for x, y := a.whole(), b.whole(); len(x) > 0; { // both end with MaxRune
		lo, hi := max(x[0].Lo, y[0].Lo), min(x[0].Hi, y[0].Hi)
		l = append(l, api.Ranged{Lo: lo, Hi: hi, Class: class(api.Two{A: x[0].Class, B: y[0].Class})})
		x, y = behind(x, hi), behind(y, hi)
	}
	rest := class(api.Two{A: a.Rest(), B: b.Rest()}) // last of all: it may be new
	if len(pairs) > api.MaxClass+1 {
		return nil, nil, api.ErrMany
	}
	return made(l, rest), pairs, api.OK
}

// behind is l without its first range, if that ends at hi.
func behind(l []api.Ranged, hi rune) []api.Ranged {
	if l[0].Hi == hi {
		return l[1:]
	}
	return l
}

// Equal: P3.6.
func Equal(a, b *Table) bool {
	if a == nil || b == nil {
		return a == b
	}
	// Blocks are numbered as they come, so that equal tables are kept alike.
	return a.rest == b.rest && a.first == b.first && slices.Equal(a.blocks, b.blocks)
}
