package runes

import (
	"strconv"
	"strings"

	"kerf/api"
	"kerf/utf"
)

// Print: P2.6.
func Print(l []api.Range) string {
	var b strings.Builder
	for i, g := range Norm(l) {
		if i > 0 {
			b.WriteByte(' ')
		}
		b.WriteString(code(g.Lo))
		if g.Hi != g.Lo {
			b.WriteByte('-')
			b.WriteString(code(g.Hi))
		}
	}
	return b.String()
}

// code spells a rune by its number.
func code(r rune) string {
	digits := strings.ToUpper(strconv.FormatInt(int64(r), 16))
	return "U+" + strings.Repeat("0", max(0, 4-len(digits))) + digits
}

// Parse: P2.7.
func Parse(s string) ([]api.Range, api.Errno, int) {
	var l []api.Range
	at := 0
items:
	for {
		for {
			if at == len(s) {
				break items
			}
			if s[at] != ' ' {
				break
			}
			at++
		}
		g, next, e := item(s, at)
		if e != api.OK {
			return nil, e, next
		}
		if next < len(s) && s[next] != ' ' {
			return nil, api.ErrRune, next
		}
		l, at = append(l, g), next
	}
	return Norm(l), api.OK, 0
}

// item reads the item of s that begins at at: its runes, and the place behind it; or an error, and its place.
func item(s string, at int) (api.Range, int, api.Errno) {
	lo, next, e := spelling(s, at)
	if e != api.OK {
		return api.Range{}, next, e
	}
	if next == len(s) || s[next] != '-' {
		return api.Range{Lo: lo, Hi: lo}, next, api.OK
	}
	hi, next, e := spelling(s, next+1)
	switch {
	case e != api.OK:
		return api.Range{}, next, e
	case hi < lo:
		return api.Range{}, at, api.ErrEnds
	}
	return api.Range{Lo: lo, Hi: hi}, next, api.OK
}

// spelling reads the spelling of one rune at at, and answers as item does; at may be the end of s.
func spelling(s string, at int) (rune, int, api.Errno) {
	switch {
	case strings.HasPrefix(s[at:], "U+"):
		return coded(s, at)
	case strings.HasPrefix(s[at:], "'"):
		return quoted(s, at)
	}
	return 0, at, api.ErrRune
}

// coded reads U+ and all digits behind it: a digit too many is no part of what follows, but makes the spelling none.
func coded(s string, at int) (rune, int, api.Errno) {
	begin := at + len("U+")
	end := begin
digits:
	for ; end < len(s); end++ {
		switch c := s[end]; {
		case c >= '0' && c <= '9', c >= 'A' && c <= 'F':
		default:
			break digits
		}
	}
	if end-begin < 4 || end-begin > 6 {
		return 0, at, api.ErrRune
	}
	n, err := strconv.ParseInt(s[begin:end], 16, 32)
	if err != nil || n > api.MaxRune {
		return 0, at, api.ErrHex
	}
	return rune(n), end, api.OK
}

// quoted reads a rune between two ' , which may itself be one.
func quoted(s string, at int) (rune, int, api.Errno) {
	begin := at + len("'")
	r, n := utf.Decode(s[begin:])
	end := begin + n
	switch {
	case n == 0 || end == len(s) || s[end] != '\'':
		return 0, at, api.ErrRune
	case !utf.Valid(s[begin:end]):
		return 0, begin, api.ErrFault
	}
	return r, end + 1, api.OK
}
