package grapheme

// The classes, by their numbers among the names of api.GraphemeProps.
const (
	classOther = iota
	classCR
	classLF
	classControl
	classExtend
	classZWJ
	classMark
	classPrepend
	classL
	classV
	classT
	classH
	classPict
	classFlag
)

// Class: P11.2. It says what api.GraphemeProps says, which would have to be read anew at each call: nothing is kept
// from one to the next.
func Class(r rune) int {
	switch {
	case r < 0x300:
		return latin(r)
	case r < 0x1100:
		return marks(r)
	case r < 0x2000:
		return jamo(r)
	case r < 0x2100:
		return punctuation(r)
	case r < 0xac00:
		return signs(r)
	case r <= 0xd7a3:
		return classH
	}
	return high(r)
}

func in(r, lo, hi rune) bool { return r >= lo && r <= hi }

// latin is of numbers below hex 300, and below 0.
func latin(r rune) int {
	switch {
	case in(r, 0x20, 0x7e) || r < 0:
		return classOther
	case r == 0xd:
		return classCR
	case r == 0xa:
		return classLF
	case r <= 0x9f || r == 0xad:
		return classControl
	case r == 0xa9 || r == 0xae:
		return classPict
	}
	return classOther
}

// marks is of runes from hex 300 to 10ff.
func marks(r rune) int {
	switch {
	case r <= 0x36f, in(r, 0x483, 0x489), in(r, 0x591, 0x5bd), in(r, 0x64b, 0x65f):
		return classExtend
	case in(r, 0x600, 0x605), r == 0x6dd, r == 0x70f:
		return classPrepend
	case r == 0x93c, r == 0x94d, in(r, 0xe34, 0xe3a):
		return classExtend
	case r == 0x903, in(r, 0x93e, 0x940), in(r, 0x949, 0x94c), r == 0xe33:
		return classMark
	}
	return classOther
}

// jamo is of runes from hex 1100 to 1fff.
func jamo(r rune) int {
	switch {
	case r <= 0x115f:
		return classL
	case r <= 0x11a7:
		return classV
	case r <= 0x11ff:
		return classT
	}
	return classOther
}

// punctuation is of runes from hex 2000 to 20ff.
func punctuation(r rune) int {
	switch {
	case r == 0x200b, r == 0x2028, r == 0x2029:
		return classControl
	case r == 0x200c, in(r, 0x20d0, 0x20f0):
		return classExtend
	case r == 0x200d:
		return classZWJ
	case r == 0x203c, r == 0x2049:
		return classPict
	}
	return classOther
}

// signs is of runes from hex 2100 to abff.
func signs(r rune) int {
	switch {
	case r > 0x3299:
		return classOther
	case r == 0x2122, in(r, 0x2190, 0x21ff), in(r, 0x2300, 0x23ff), in(r, 0x25a0, 0x27bf):
		return classPict
	case r == 0x2934, r == 0x2935, in(r, 0x2b05, 0x2b55):
		return classPict
	case r == 0x3030, r == 0x303d, r == 0x3297, r == 0x3299:
		return classPict
	case r == 0x3099, r == 0x309a:
		return classExtend
	}
	return classOther
}

// high is of runes above hex d7a3, and of numbers above all runes.
func high(r rune) int {
	switch {
	case in(r, 0xfe00, 0xfe0f), in(r, 0x1f3fb, 0x1f3ff), in(r, 0xe0020, 0xe007f):
		return classExtend
	case r == 0xfeff:
		return classControl
	case r == 0x110bd:
		return classPrepend
	case in(r, 0x1f1e6, 0x1f1ff):
		return classFlag
	case in(r, 0x1f000, 0x1f0ff), in(r, 0x1f300, 0x1f3fa), in(r, 0x1f400, 0x1faff):
		return classPict
	}
	return classOther
}
