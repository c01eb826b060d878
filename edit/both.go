package edit

import (
	"slices"

	"kerf/api"
)

// source tells what a change makes from the front, as many bytes at once as are asked for.
type source struct{ left []piece }

// next is a piece of what is left, of at most so many bytes.
func (x *source) next(most int) piece {
	p := x.left[0]
	if p.long() <= most {
		x.left = x.left[1:]
		return p
	}
	p, x.left[0] = p.cut(most)
	return p
}

// Compose: P23.5.
func Compose(a, b api.Change) (api.Change, api.Errno) {
	if !good(a) {
		return api.Change{}, api.ErrChange
	}
	if e := fits(b, Long(a)); e != api.OK {
		return api.Change{}, e
	}
	var m maker
	x := source{slices.Collect(pieces(a))}
	at := 0
	for p := range pieces(b) {
		if p.text != "" {
			m.lay(p.text)
			continue
		}
		for at < p.from {
			at += x.next(p.from - at).long()
		}
		for at < p.to {
			q := x.next(p.to - at)
			m.put(q)
			at += q.long()
		}
	}
	return m.change(a.Len), api.OK
}

// reader goes along the edits of a change in normal form, with a place of its text.
type reader struct{ left []api.Edit }

// text is what is laid in the gap at a place.
func (x *reader) text(at int) string {
	if len(x.left) > 0 && x.left[0].From == at {
		return x.left[0].Text
	}
	return ""
}

// reach is how far from a place on, below end, all is kept or all is cut, and which of the two.
func (x *reader) reach(at, end int) (to int, kept bool) {
	for len(x.left) > 0 && x.left[0].To <= at {
		x.left = x.left[1:]
	}
	switch {
	case len(x.left) == 0:
		return end, true
	case x.left[0].From > at:
		return x.left[0].From, true
	}
	return x.left[0].To, false
}

// Transform: P23.6.
func Transform(a, b api.Change, first bool) (api.Change, api.Errno) {
	a, e := Norm(a)
	b, f := Norm(b)
	switch {
	case e != api.OK || f != api.OK:
		return api.Change{}, api.ErrChange
	case a.Len != b.Len:
		return api.Change{}, api.ErrText
	}
	return behind(reader{a.Edits}, reader{b.Edits}, a.Len, first), api.OK
}

// behind is a as a change of what b makes of a text of so many bytes. The place in what b makes goes along with that in the text.
func behind(a, b reader, long int, first bool) api.Change {
	var m maker
	at, made := 0, 0
	for {
		mine, other := a.text(at), len(b.text(at))
		if first {
			m.lay(mine)
		}
		m.keep(made, made+other)
		if !first {
			m.lay(mine)
		}
		made += other
		if at == long {
			return m.change(made)
		}
		to, kept := a.reach(at, long)
		end, there := b.reach(at, long)
		to = min(to, end)
		if there && kept {
			m.keep(made, made+to-at)
		}
		if there {
			made += to - at
		}
		at = to
	}
}
