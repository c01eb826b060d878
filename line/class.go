package line

// The classes, by their numbers among the names of api.LineProps; and what stands for the class of a rune where there is
// no rune.
const (
	classOther = iota
	classBk
	classCr
	classLf
	classSp
	classZw
	classWj
	classGl
	classCm
	classOp
	classCp
	classCl
	classQu
	classEx
	classIs
	classSy
	classHy
	classBa
	classDash
	classIn
	classNu
	classPo
	classPr
	classId
	classNs
	classRi

	classNone = -1
)

// classOf says what api.LineProps says, which would have to be read anew at each call: nothing is kept from one to the
// next.
func classOf(r rune) int {
	switch {
	case r < 0x80:
		return ascii(r)
	case r < 0x300:
		return latin(r)
	case r < 0x2000:
		return scripts(r)
	case r < 0x2100:
		return punctuation(r)
	case r < 0x3100:
		return kana(r)
	}
	return high(r)
}

func in(r, lo, hi rune) bool { return r >= lo && r <= hi }

// ascii is of runes below hex 80.
func ascii(r rune) int {
	if in(r, '0', '9') {
		return classNu
	}
	switch r {
	case '\v', '\f':
		return classBk
	case '\r':
		return classCr
	case '\n':
		return classLf
	case ' ':
		return classSp
	case '\t':
		return classBa
	case '(', '[', '{':
		return classOp
	case ')', ']':
		return classCp
	case '}':
		return classCl
	case '"', '\'':
		return classQu
	case '!', '?':
		return classEx
	case ',', '.', ':', ';':
		return classIs
	case '/':
		return classSy
	case '-':
		return classHy
	case '%':
		return classPo
	case '$', '+', '\\':
		return classPr
	}
	return classOther
}

// latin is of runes from hex 80 to 2ff.
func latin(r rune) int {
	switch r {
	case 0x85:
		return classBk
	case 0xa0:
		return classGl
	case 0xa1, 0xbf:
		return classOp
	case 0xa2, 0xb0:
		return classPo
	case 0xa3, 0xa4, 0xa5, 0xb1:
		return classPr
	case 0xab, 0xbb:
		return classQu
	case 0xad:
		return classBa
	}
	return classOther
}

// scripts is of runes from hex 300 to 1fff.
func scripts(r rune) int {
	switch {
	case r <= 0x36f, in(r, 0x591, 0x5bd):
		return classCm
	case in(r, 0x660, 0x669):
		return classNu
	}
	return classOther
}

// punctuation is of runes from hex 2000 to 20ff.
func punctuation(r rune) int {
	switch r {
	case 0x2007, 0x202f:
		return classGl
	case 0x200b:
		return classZw
	case 0x200c, 0x200d:
		return classCm
	case 0x2010, 0x2013:
		return classBa
	case 0x2014:
		return classDash
	case 0x2018, 0x2019, 0x201c, 0x201d:
		return classQu
	case 0x201a:
		return classOp
	case 0x2026:
		return classIn
	case 0x2028, 0x2029:
		return classBk
	case 0x2030:
		return classPo
	case 0x2060:
		return classWj
	case 0x20ac:
		return classPr
	}
	return classOther
}

// kana is of runes from hex 2100 to 30ff.
func kana(r rune) int {
	switch {
	case in(r, 0x3041, 0x3096), in(r, 0x30a1, 0x30fa):
		return classId
	case r == 0x3001, r == 0x3002, r == 0x3009, r == 0x300b, r == 0x300d:
		return classCl
	case r == 0x3008, r == 0x300a, r == 0x300c:
		return classOp
	case r == 0x3005, r == 0x301c, in(r, 0x309b, 0x309e), in(r, 0x30fb, 0x30fe):
		return classNs
	case r == 0x3099, r == 0x309a:
		return classCm
	}
	return classOther
}

// high is of runes from hex 3100 on.
func high(r rune) int {
	switch {
	case in(r, 0x3400, 0x4dbf), in(r, 0x4e00, 0x9fff), in(r, 0x1f300, 0x1f3fa), in(r, 0x1f400, 0x1f64f):
		return classId
	case in(r, 0xfe00, 0xfe0f), in(r, 0x1f3fb, 0x1f3ff):
		return classCm
	case r == 0xfeff:
		return classWj
	case in(r, 0x1f1e6, 0x1f1ff):
		return classRi
	}
	return classOther
}
