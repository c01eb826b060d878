package norm

import (
	"slices"
	"strings"

	"kerf/utf"
)

// plain is the number from which on runes may be other than plain. Those below it are starters that never fall apart and
// that nothing ahead of them joins, in any form: no table need be read for them.
const plain = 0x80

// text is the form of a text. A fault parts what stands ahead of it from what stands behind: no mark is sorted past it,
// and nothing joins over it. So what stands between two faults, which is runes alone, is brought into form by itself.
func (t *tables) text(s string) string {
	if isPlain(s) {
		return s
	}
	t.read()
	var b strings.Builder
	b.Grow(len(s))
	from := 0
	for _, at := range utf.Faults(s) {
		b.WriteString(t.stretch(s[from:at]))
		b.WriteByte(s[at])
		from = at + 1
	}
	b.WriteString(t.stretch(s[from:]))
	return b.String()
}

func isPlain(s string) bool {
	for at := range len(s) {
		if s[at] >= plain {
			return false
		}
	}
	return true
}

// stretch is the form of a text that has no faults.
func (t *tables) stretch(s string) string {
	list := make([]rune, 0, len(s))
	for _, r := range []rune(s) {
		list = t.falls.apart(list, r)
	}
	t.sort(list)
	if joins(t.form) {
		list = t.joined(list)
	}
	return string(list)
}

// apart lays the runes into which r falls apart wholly behind a list.
func (f falls) apart(list []rune, r rune) []rune {
	if isSyllable(r) {
		return appendSyllable(list, r)
	}
	p, ok := f[r]
	if !ok {
		return append(list, r)
	}
	for _, part := range p.list[:p.long] {
		list = f.apart(list, part)
	}
	return list
}

// sort sorts each run of marks in a list by their orders.
func (t *tables) sort(list []rune) {
	byOrder := func(a, b rune) int { return t.orders[a] - t.orders[b] }
	from := 0
	for at, r := range list {
		if t.orders[r] == 0 {
			slices.SortStableFunc(list[from:at], byOrder)
			from = at + 1
		}
	}
	slices.SortStableFunc(list[from:], byOrder)
}

// joined is what is left of a list whose marks are sorted, where those that join are one. It takes the list's own room.
func (t *tables) joined(list []rune) []rune {
	kept := list[:0]
	starter := -1 // the place of the last one among those that are kept
	for _, b := range list {
		order := t.orders[b]
		if starter >= 0 && !t.block(kept[starter+1:], order) {
			if r, ok := t.pairs.join(kept[starter], b); ok {
				kept[starter] = r
				continue
			}
		}
		if order == 0 {
			starter = len(kept)
		}
		kept = append(kept, b)
	}
	return kept
}

// block is whether the marks between a starter and a rune of that order keep the two from joining. The marks are sorted:
// if any of them does, the last one does.
func (t *tables) block(marks []rune, order int) bool {
	return len(marks) > 0 && t.orders[marks[len(marks)-1]] >= order
}

// join is the rune that two others make, and whether they make one.
func (p pairs) join(a, b rune) (rune, bool) {
	if r, ok := syllableOf(a, b); ok {
		return r, true
	}
	r, ok := p[pair{a, b}]
	return r, ok
}

// safe is whether nothing that may stand ahead of r has a part in what becomes of r and of what stands behind it.
func (t *tables) safe(r rune) bool {
	if r < plain {
		return true
	}
	t.read()
	first := t.falls.apart(nil, r)[0]
	if t.orders[first] > 0 {
		return false
	}
	return !joins(t.form) || !isSecond(first) && !isThird(first) && t.seconds[first] == 0
}
