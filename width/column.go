package width

import (
	"kerf/api"
	"kerf/grapheme"
	"kerf/utf"
)

// asPicture is the rune that says that the one ahead of it is shown as a picture.
const asPicture = 0xfe0f

// letterCells are those of a text that is one letter.
func letterCells(letter string, o api.Cells) int {
	first, width := utf.Decode(letter)
	second, _ := utf.Decode(letter[width:])
	class := grapheme.Class(first)
	if class == classFlag && grapheme.Class(second) == classFlag {
		return 2
	}
	most := 0
	for _, r := range letter {
		most = max(most, runeCells(r, o))
		if r == asPicture && class == classPict {
			most = max(most, 2)
		}
	}
	return most
}

// endsLine is whether a letter ends a line.
func endsLine(letter string) bool {
	switch r, _ := utf.Decode(letter); r {
	case '\n', '\v', '\f', '\r', 0x85, 0x2028, 0x2029:
		return true
	}
	return false
}

// isTab is whether a letter begins with a tab.
func isTab(letter string) bool { return letter[0] == '\t' }

// behind is the column behind a letter.
func behind(letter string, column int, o api.Cells) int {
	switch {
	case endsLine(letter):
		return 0
	case isTab(letter):
		return (column/o.Tab + 1) * o.Tab
	}
	return column + letterCells(letter, o)
}

// fitting is where the first letter of s begins that ends a line, or behind which the column is above cells (the length
// of s, if there is none), and the column there.
func fitting(s string, cells int, o api.Cells) (end, column int) {
	column = o.Start
	for from, to := range grapheme.Each(s) {
		letter := s[from:to]
		next := behind(letter, column, o)
		if endsLine(letter) || next > cells {
			break
		}
		end, column = to, next
	}
	return end, column
}

// latest is the greatest column from which the letters of s, going on, come to none above cells; below 0, if there is
// none. It goes through them from the last one on: no column has to be tried.
func latest(s string, cells int, o api.Cells) int {
	for from, to := range grapheme.Back(s) {
		letter := s[from:to]
		switch {
		case cells < 0 || endsLine(letter):
			return -1
		case isTab(letter):
			cells = cells/o.Tab*o.Tab - 1
		default:
			cells -= letterCells(letter, o)
		}
	}
	return cells
}
