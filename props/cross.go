package props

import "kerf/api"

// Cross: P4.5.
func Cross(a, b *Db) (*Db, api.Errno) {
	if a == nil || b == nil {
		return nil, api.OK
	}
	pairs, parts := paired(a.parts, b.parts)
	if len(pairs) > api.MaxClasses {
		return nil, api.ErrMany
	}
	d := bare()
	for _, p := range pairs[1:] { // the first is Other's
		name := a.names[p.A] + "_" + b.names[p.B]
		if len(name) > api.MaxName {
			return nil, api.ErrName
		}
		d.enter(name)
	}
	if len(d.names) < len(pairs) {
		return nil, api.ErrThere
	}
	d.parts = parts
	return d, api.OK
}

// paired has the pairs of classes that there are, by their numbers, and the parts that have them; x and y have all numbers from 0 to MaxRune.
func paired(x, y []api.Ranged) ([]api.Two, []api.Ranged) {
	pairs := []api.Two{{}}
	numbers := map[api.Two]int{{}: 0} // 0, 0 is the first, also where no rune has it
	var parts []api.Ranged
	for len(x) > 0 && len(y) > 0 {
		p := api.Two{A: x[0].Class, B: y[0].Class}
		n, ok := numbers[p]
		if !ok {
			n = len(pairs)
			pairs = append(pairs, p)
			numbers[p] = n
		}
		lo, hi := max(x[0].Lo, y[0].Lo), min(x[0].Hi, y[0].Hi)
		parts = append(parts, api.Ranged{Lo: lo, Hi: hi, Class: n})
		x, y = behind(x, hi), behind(y, hi)
	}
	return pairs, parts
}

// behind is l without its first range, if that ends at hi.
func behind(l []api.Ranged, hi rune) []api.Ranged {
	if l[0].Hi == hi {
		return l[1:]
	}
	return l
}
