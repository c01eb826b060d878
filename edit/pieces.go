package edit

import (
	"iter"

	"kerf/api"
)

// piece is one of those that what a change makes is put together of: bytes that are kept or, if its text is not empty, that text.
type piece struct {
	from, to int
	text     string
}

// long is how many bytes a piece has.
func (p piece) long() int { return p.to - p.from + len(p.text) }

// cut parts a piece behind its first n bytes.
func (p piece) cut(n int) (piece, piece) {
	if p.text != "" {
		return piece{text: p.text[:n]}, piece{text: p.text[n:]}
	}
	return piece{from: p.from, to: p.from + n}, piece{from: p.from + n, to: p.to}
}

// pieces goes over those of what a good change makes, none of them empty.
func pieces(c api.Change) iter.Seq[piece] {
	return func(yield func(piece) bool) {
		at := 0
		for _, e := range c.Edits {
			if at < e.From && !yield(piece{from: at, to: e.From}) {
				return
			}
			if e.Text != "" && !yield(piece{text: e.Text}) {
				return
			}
			at = e.To
		}
		if at < c.Len {
			yield(piece{from: at, to: c.Len})
		}
	}
}

// maker makes a change in normal form, told from the front what is kept and what is laid in; what is not kept is cut.
type maker struct {
	at    int    // where the last byte that is kept ends
	text  []byte // what is laid in behind it
	edits []api.Edit
}

// put lays down a piece.
func (m *maker) put(p piece) {
	if p.text != "" {
		m.lay(p.text)
	} else {
		m.keep(p.from, p.to)
	}
}

// lay lays a text in.
func (m *maker) lay(s string) { m.text = append(m.text, s...) }

// keep keeps some bytes; of none, what is laid in ahead and behind stands in one edit.
func (m *maker) keep(from, to int) {
	if from != to {
		m.close(from)
		m.at = to
	}
}

// close ends an edit, if there is something in it.
func (m *maker) close(to int) {
	if m.at != to || len(m.text) > 0 {
		m.edits = append(m.edits, api.Edit{From: m.at, To: to, Text: string(m.text)})
		m.text = m.text[:0]
	}
}

// change is what was made, of a text of so many bytes.
func (m *maker) change(long int) api.Change {
	m.close(long)
	return api.Change{Len: long, Edits: m.edits}
}
