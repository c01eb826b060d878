package width

import "kerf/api"

// The classes of chapter 11 that have a part in how wide a letter is, by their numbers among the names of
// api.GraphemeProps.
const (
	classPict = 12
	classFlag = 13
)

// runeCells are those of a rune, where o is a good one. It says what api.WidthProps says, which would have to be read
// anew at each call: nothing is kept from one to the next.
func runeCells(r rune, o api.Cells) int {
	switch {
	case isZero(r):
		return 0
	case isWide(r):
		return 2
	case isAmbiguous(r):
		return o.Ambiguous
	}
	return 1
}

func in(r, lo, hi rune) bool { return r >= lo && r <= hi }

// isZero is whether r is of the class Zero.
func isZero(r rune) bool {
	switch {
	case r < 0x300:
		return in(r, 0, 0x8) || in(r, 0xa, 0x1f) || in(r, 0x7f, 0x9f) || r == 0xad
	case r < 0x1100:
		return isZeroMark(r)
	case r < 0x20f1:
		return in(r, 0x1160, 0x11ff) || in(r, 0x200b, 0x200f) || in(r, 0x2028, 0x202e) || in(r, 0x2060, 0x2064) || in(r, 0x20d0, 0x20f0)
	case r < 0x10000:
		return in(r, 0x3099, 0x309a) || in(r, 0xfe00, 0xfe0f) || r == 0xfeff
	}
	return r == 0x110bd || in(r, 0x1f3fb, 0x1f3ff) || in(r, 0xe0020, 0xe007f)
}

// isZeroMark is isZero of runes from hex 300 to 10ff.
func isZeroMark(r rune) bool {
	switch {
	case r <= 0x36f, in(r, 0x483, 0x489), in(r, 0x591, 0x5bd), in(r, 0x64b, 0x65f):
		return true
	case in(r, 0x600, 0x605), r == 0x6dd, r == 0x70f:
		return true
	}
	return r == 0x93c || r == 0x94d || in(r, 0xe34, 0xe3a)
}

// isWide is whether r, which is not of the class Zero, is of the class Wide.
func isWide(r rune) bool {
	switch {
	case r < 0x2e80:
		return in(r, 0x1100, 0x115f)
	case r < 0xa4d0:
		return r != 0x303f && r != 0x3040 && !in(r, 0x4dc0, 0x4dff)
	case r < 0x10000:
		return in(r, 0xac00, 0xd7a3) || in(r, 0xf900, 0xfaff) || in(r, 0xfe30, 0xfe6f) || in(r, 0xff00, 0xff60) || in(r, 0xffe0, 0xffe6)
	case r < 0x20000:
		return in(r, 0x1f300, 0x1f3fa) || in(r, 0x1f400, 0x1f64f) || in(r, 0x1f680, 0x1f6ff) || in(r, 0x1f900, 0x1f9ff)
	}
	return r <= 0x3fffd
}

// isAmbiguous is whether r is of the class Ambiguous.
func isAmbiguous(r rune) bool {
	switch {
	case r < 0x391:
		return r == 0xa1 || r == 0xa7 || r == 0xb1
	case r < 0x2010:
		return in(r, 0x391, 0x3a9) || in(r, 0x3b1, 0x3c9) || in(r, 0x410, 0x44f)
	}
	return r <= 0x2027 || in(r, 0x2190, 0x2199) || in(r, 0x2500, 0x257f) || in(r, 0x25a0, 0x25ff)
}
