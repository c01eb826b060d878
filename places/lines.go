package places

import (
	"iter"

	"kerf/grapheme"
)

// Lines: P17.4.
func (x *Index) Lines() int { return x.ends.long + 1 }

// Line: P17.4.
func (x *Index) Line(row int) (int, int, int) {
	if row < 0 || row >= x.Lines() {
		return 0, 0, 0
	}
	from := 0
	if row > 0 {
		from = behind(x.text, x.ends.place(row-1))
	}
	to := x.ends.place(row)
	return from, to, behind(x.text, to)
}

// Each: P17.4.
func (x *Index) Each() iter.Seq2[int, string] {
	return func(yield func(int, string) bool) {
		row, from := 0, 0
		for to := range endsOf(x.text) {
			if !yield(row, x.text[from:to]) {
				return
			}
			row, from = row+1, behind(x.text, to)
		}
		yield(row, x.text[from:])
	}
}

// endsOf goes over the places where what ends a line of s begins.
func endsOf(s string) iter.Seq[int] {
	return func(yield func(int) bool) {
		for at, r := range s {
			if endsLine(r) && !second(s, at) && !yield(at) {
				return
			}
		}
	}
}

// endsLine is whether a line ends behind that rune.
func endsLine(r rune) bool {
	switch r {
	case '\n', '\v', '\f', '\r', 0x85, 0x2028, 0x2029:
		return true
	}
	return false
}

// second is whether the byte at the place at is the LF of a CR LF.
func second(s string, at int) bool { return s[at] == '\n' && at > 0 && s[at-1] == '\r' }

// behind is the place behind what ends a line at the place at, which is one letter; the length of s, if at is that.
func behind(s string, at int) int { return grapheme.Next(s, at) }
