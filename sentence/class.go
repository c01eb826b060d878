package sentence

// The classes, by their numbers among the names of api.SentenceProps, and how many there are.
const (
	classOther = iota
	classCR
	classLF
	classSep
	classSp
	classLower
	classUpper
	classLetter
	classDigit
	classStop
	classTerm
	classClose
	classOn
	classExtend
	classCount
)

// Class: P13.1. It says what api.SentenceProps says, which would have to be read anew at each call: nothing is kept
// from one to the next.
func Class(r rune) int {
	switch {
	case r < 0x80:
		return ascii(r)
	case r < 0x300:
		return latin(r)
	case r < 0x500:
		return european(r)
	case r < 0x900:
		return semitic(r)
	case r < 0x2000:
		return indic(r)
	case r < 0x2100:
		return punctuation(r)
	case r < 0x3100:
		return kana(r)
	}
	return high(r)
}

func in(r, lo, hi rune) bool { return r >= lo && r <= hi }

// ascii is of numbers below hex 80, and below 0.
func ascii(r rune) int {
	switch {
	case in(r, 'a', 'z'):
		return classLower
	case in(r, 'A', 'Z'):
		return classUpper
	case in(r, '0', '9'):
		return classDigit
	}
	switch r {
	case '\r':
		return classCR
	case '\n':
		return classLF
	case ' ', '\t', '\v', '\f':
		return classSp
	case '.':
		return classStop
	case '!', '?':
		return classTerm
	case '"', '\'', '(', ')', '[', ']', '{', '}':
		return classClose
	case ',', '-', ':':
		return classOn
	}
	return classOther
}

// latin is of runes from hex 80 to 2ff.
func latin(r rune) int {
	switch {
	case r == 0x85:
		return classSep
	case r == 0xa0:
		return classSp
	case r == 0xaa, r == 0xba:
		return classLetter
	case r == 0xab, r == 0xbb:
		return classClose
	case r == 0xad:
		return classExtend
	case in(r, 0xc0, 0xd6), in(r, 0xd8, 0xde):
		return classUpper
	case r == 0xb5, in(r, 0xdf, 0xf6), in(r, 0xf8, 0xff):
		return classLower
	}
	return classOther
}

// european is of runes from hex 300 to 4ff.
func european(r rune) int {
	switch {
	case r <= 0x36f, in(r, 0x483, 0x489):
		return classExtend
	case in(r, 0x391, 0x3a1), in(r, 0x3a3, 0x3a9), in(r, 0x400, 0x42f):
		return classUpper
	case in(r, 0x3b1, 0x3c9), in(r, 0x430, 0x45f):
		return classLower
	}
	return classOther
}

// semitic is of runes from hex 500 to 8ff.
func semitic(r rune) int {
	switch {
	case r == 0x55d, r == 0x60c, r == 0x60d:
		return classOn
	case r == 0x589, r == 0x61f, r == 0x6d4:
		return classTerm
	case in(r, 0x5d0, 0x5ea), in(r, 0x621, 0x64a):
		return classLetter
	case in(r, 0x64b, 0x65f):
		return classExtend
	case in(r, 0x660, 0x669), in(r, 0x6f0, 0x6f9):
		return classDigit
	}
	return classOther
}

// indic is of runes from hex 900 to 1fff.
func indic(r rune) int {
	switch {
	case in(r, 0x904, 0x939), in(r, 0xe01, 0xe30), in(r, 0x1100, 0x11ff):
		return classLetter
	case r == 0x93c, r == 0x94d:
		return classExtend
	case r == 0x964, r == 0x965:
		return classTerm
	case in(r, 0x966, 0x96f):
		return classDigit
	case r == 0x1680:
		return classSp
	}
	return classOther
}

// punctuation is of runes from hex 2000 to 20ff.
func punctuation(r rune) int {
	switch {
	case r <= 0x200a, r == 0x202f, r == 0x205f:
		return classSp
	case r <= 0x200f, in(r, 0x202a, 0x202e), in(r, 0x2060, 0x2064), in(r, 0x20d0, 0x20f0):
		return classExtend
	case r == 0x2013, r == 0x2014:
		return classOn
	case in(r, 0x2018, 0x201f), r == 0x2039, r == 0x203a, r == 0x2045, r == 0x2046:
		return classClose
	case r == 0x2024:
		return classStop
	case r == 0x2028, r == 0x2029:
		return classSep
	case r == 0x203c, r == 0x203d, in(r, 0x2047, 0x2049):
		return classTerm
	}
	return classOther
}

// kana is of runes from hex 2100 to 30ff.
func kana(r rune) int {
	switch {
	case r == 0x3000:
		return classSp
	case r == 0x3001:
		return classOn
	case r == 0x3002:
		return classTerm
	case in(r, 0x3008, 0x3011):
		return classClose
	case in(r, 0x3041, 0x3096), in(r, 0x30a1, 0x30fa):
		return classLetter
	}
	return classOther
}

// high is of runes from hex 3100 on, and of numbers above all runes.
func high(r rune) int {
	switch {
	case in(r, 0x4e00, 0x9fff), in(r, 0xac00, 0xd7a3):
		return classLetter
	case in(r, 0xfe00, 0xfe0f), r == 0xfeff, in(r, 0x1f3fb, 0x1f3ff):
		return classExtend
	case r == 0xfe52, r == 0xff0e:
		return classStop
	case r == 0xff01, r == 0xff1f, r == 0xff61:
		return classTerm
	case r == 0xff0c, r == 0xff0d, r == 0xff1a:
		return classOn
	}
	return classOther
}
