package pick

import (
	"kerf/api"
	"kerf/edit"
)

// Through: P24.7.
func Through(s string, c api.Change, p api.Picks) (api.Picks, api.Errno) {
	t, e := edit.Apply(s, c)
	if e != api.OK {
		return api.Picks{}, e
	}
	p = Norm(s, p)
	c, _ = edit.Norm(c)
	along := carrier{left: c}
	for i, pick := range p.L {
		x := spanOf(pick)
		from := along.move(x.from, false)
		to := from
		if !x.empty() {
			to = along.move(x.to, true)
		}
		p.L[i] = span{min(from, to), to, x.back}.pick()
	}
	return Norm(t, p), api.OK
}

// carrier carries places along by a change in normal form, one behind the other as they rise.
type carrier struct {
	left api.Change // with the edits alone that do not end below the place
	more int        // how much longer the others have made what stands ahead
}

// move is where a place comes to by all of the change: only the next edit is left to be asked, as those behind it lie above.
func (x *carrier) move(at int, stay bool) int {
	l := x.left.Edits
	for len(l) > 0 && l[0].To < at {
		x.more += grows(l[0])
		l = l[1:]
	}
	x.left.Edits = l
	next := api.Change{Len: x.left.Len, Edits: l[:min(1, len(l))]}
	return x.more + edit.Move(next, at, stay)
}

// grows is how much longer an edit makes a text.
func grows(e api.Edit) int { return len(e.Text) - (e.To - e.From) }

// Type: P24.8.
func Type(s string, p api.Picks, texts []string) (string, api.Change, api.Picks) {
	p = Norm(s, p)
	c := api.Change{Len: len(s)}
	more := 0 // how much longer the picks so far have made what stands ahead
	for i, pick := range p.L {
		x := spanOf(pick)
		e := api.Edit{From: x.from, To: x.to}
		if len(texts) > 0 {
			e.Text = texts[i%len(texts)]
		}
		c.Edits = append(c.Edits, e)
		more += grows(e)
		p.L[i] = span{from: x.to + more, to: x.to + more}.pick()
	}
	c, _ = edit.Norm(c)
	t, _ := edit.Apply(s, c)
	return t, c, Norm(t, p)
}

// Erase: P24.9.
func Erase(s string, p api.Picks, m api.Motion, o api.Cells) (string, api.Picks) {
	p = Norm(s, p)
	for i, x := range p.L {
		if spanOf(x).empty() {
			p.L[i].Head = led(s, x, m, o).At
		}
	}
	t, _, p := Type(s, p, nil)
	return t, p
}
