package word

// The classes, in the order of their names in api.WordProps.
const (
	classOther = iota
	classCr
	classLf
	classNewline
	classExtend
	classZwj
	classFormat
	classRegion
	classKatakana
	classHebrew
	classLetter
	classQuote
	classDouble
	classMidNumLet
	classMidLetter
	classMidNum
	classDigit
	classLow
	classSpace
	classPict
)

// classOf says what api.WordProps says, which would have to be read anew at each call: nothing is kept from one to the
// next.
func classOf(r rune) int {
	switch {
	case r < 0x80:
		return ascii(r)
	case r < 0x300:
		return latin(r)
	case r < 0x2000:
		return scripts(r)
	case r < 0x2100:
		return punctuation(r)
	case r < 0xac00:
		return asian(r)
	case r <= 0xd7a3:
		return classLetter
	}
	return high(r)
}

func in(r, lo, hi rune) bool { return r >= lo && r <= hi }

// ascii is of runes below hex 80.
func ascii(r rune) int {
	switch {
	case in(r, 'a', 'z'), in(r, 'A', 'Z'):
		return classLetter
	case r == ' ':
		return classSpace
	case in(r, '0', '9'):
		return classDigit
	}
	switch r {
	case '\r':
		return classCr
	case '\n':
		return classLf
	case '\v', '\f':
		return classNewline
	case '\'':
		return classQuote
	case '"':
		return classDouble
	case '.':
		return classMidNumLet
	case ':':
		return classMidLetter
	case ',', ';':
		return classMidNum
	case '_':
		return classLow
	}
	return classOther
}

// latin is of runes from hex 80 to 2ff.
func latin(r rune) int {
	switch {
	case r == 0xaa, r == 0xb5, in(r, 0xc0, 0xd6), in(r, 0xd8, 0xf6), in(r, 0xf8, 0x2af):
		return classLetter
	case r == 0x85:
		return classNewline
	case r == 0xa9, r == 0xae:
		return classPict
	case r == 0xad:
		return classFormat
	case r == 0xb7:
		return classMidLetter
	}
	return classOther
}

// scripts is of runes from hex 300 to 1fff.
func scripts(r rune) int {
	switch {
	case r <= 0x36f, in(r, 0x591, 0x5bd):
		return classExtend
	case r <= 0x373, r == 0x386, in(r, 0x388, 0x481), in(r, 0x48a, 0x556):
		return classLetter
	case in(r, 0x620, 0x64a), in(r, 0x1e00, 0x1fbc):
		return classLetter
	case in(r, 0x5d0, 0x5ea):
		return classHebrew
	case in(r, 0x660, 0x669):
		return classDigit
	case r == 0x66c:
		return classMidNum
	}
	return classOther
}

// punctuation is of runes from hex 2000 to 20ff.
func punctuation(r rune) int {
	switch r {
	case 0x200c:
		return classExtend
	case 0x200d:
		return classZwj
	case 0x200e, 0x200f, 0x2060:
		return classFormat
	case 0x2018, 0x2019:
		return classMidNumLet
	case 0x2028, 0x2029:
		return classNewline
	case 0x203f:
		return classLow
	}
	if r <= 0x2006 {
		return classSpace
	}
	return classOther
}

// asian is of runes from hex 2100 to abff.
func asian(r rune) int {
	switch {
	case in(r, 0x2600, 0x27bf):
		return classPict
	case r == 0x3000:
		return classSpace
	case r == 0x3099, r == 0x309a:
		return classExtend
	case in(r, 0x30a1, 0x30fa), r == 0x30fc:
		return classKatakana
	}
	return classOther
}

// high is of runes above hex d7a3.
func high(r rune) int {
	switch {
	case in(r, 0xfb00, 0xfb06):
		return classLetter
	case in(r, 0xfe00, 0xfe0f), in(r, 0x1f3fb, 0x1f3ff):
		return classExtend
	case r == 0xfeff:
		return classFormat
	case in(r, 0xff66, 0xff9d):
		return classKatakana
	case in(r, 0x1f1e6, 0x1f1ff):
		return classRegion
	case in(r, 0x1f300, 0x1f3fa), in(r, 0x1f400, 0x1f64f), in(r, 0x1f680, 0x1f6ff):
		return classPict
	}
	return classOther
}
