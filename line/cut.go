package line

import "kerf/utf"

// cut is whether api.LineRules part s at the edge at, which stands between two runes of it. from is 0, or a bound of s
// ahead of at: flag letters are counted from there on alone, so that a long row of them is not counted anew at each.
//
// The rules of line ends, blanks and Zw come first, one by one. Those behind them hold together, up to the one that parts
// behind a blank; and so do all behind that: within each of these two groups the order of the rules has no part.
func cut(s string, from, at int) bool {
	ahead, _ := last(s[:at])
	behind, _ := first(s[at:])
	switch {
	case ahead == classCr && behind == classLf:
		return false
	case endsLine(ahead):
		return true
	case endsLine(behind) || isAny(behind, classSp, classZw):
		return false
	}
	// A row of blanks is looked through at the place behind it alone, and so is a row of marks: the time for all places of
	// a text grows as its length does.
	body := without(s[:at], classSp)
	if class, _ := last(body); class == classZw {
		return true
	}
	if ahead == classSp {
		return !held(base(body), behind)
	}
	return behind != classCm && !held(base(body), behind) && !joined(s, from, at)
}

// isAny is whether class is one of those.
func isAny(class int, those ...int) bool {
	for _, one := range those {
		if class == one {
			return true
		}
	}
	return false
}

// endsLine is whether a line must end behind a rune of that class.
func endsLine(class int) bool { return isAny(class, classBk, classCr, classLf) }

// held is whether runes of two classes are held together even where blanks stand between them.
func held(ahead, behind int) bool {
	if isAny(behind, classWj, classCl, classCp, classEx, classIs, classSy) {
		return true
	}
	switch ahead {
	case classOp:
		return true
	case classQu:
		return behind == classOp
	case classCl, classCp:
		return behind == classNs
	case classDash:
		return behind == classDash
	}
	return false
}

// joined is whether one of the rules by which no blank may stand between holds s together at the edge at.
func joined(s string, from, at int) bool {
	ahead := base(s[:at])
	behind, width := first(s[at:])
	switch {
	case glued(ahead, behind), isAny(behind, classQu, classBa, classHy, classNs, classIn), together(ahead, behind):
		return true
	case isAny(behind, classPo, classPr):
		return number(s[:at])
	case isAny(ahead, classPo, classPr) && behind == classOp:
		next, _ := first(s[at+width:])
		return next == classNu
	case ahead == classRi && behind == classRi:
		return odd(s[from:at])
	}
	return false
}

// glued is whether runes of two classes are held together by one that is there for that alone.
func glued(ahead, behind int) bool {
	return isAny(ahead, classWj, classGl) || behind == classGl && !isAny(ahead, classSp, classBa, classHy)
}

// together is whether runes of two classes are held together, whatever else stands there.
func together(ahead, behind int) bool {
	switch ahead {
	case classQu:
		return true
	case classOther, classNu:
		return isAny(behind, classOther, classNu, classOp, classPo, classPr)
	case classIs, classCp, classPo:
		return isAny(behind, classOther, classNu)
	case classPr:
		return isAny(behind, classOther, classNu, classId)
	case classHy, classSy:
		return behind == classNu
	case classId:
		return behind == classPo
	}
	return false
}

// number is whether s ends with a digit, behind which stand one Is or Sy at most, and then one Cl or Cp at most, whatever
// marks they have.
func number(s string) bool {
	s = withoutOne(s, classCl, classCp)
	s = withoutOne(s, classIs, classSy)
	return base(s) == classNu
}

// odd is whether s ends with an odd number of flag letters, whatever marks they have.
func odd(s string) bool {
	odd := false
	for base(s) == classRi {
		s = withoutOne(s, classRi)
		odd = !odd
	}
	return odd
}

// first is the class of the first rune of s, and how many bytes it has.
func first(s string) (class, width int) {
	if s == "" {
		return classNone, 0
	}
	r, width := utf.Decode(s)
	return classOf(r), width
}

// last is the class of the last rune of s, and how many bytes it has.
func last(s string) (class, width int) {
	if s == "" {
		return classNone, 0
	}
	r, width := utf.Last(s)
	return classOf(r), width
}

// base is the class of the last rune of s that is no mark.
func base(s string) int {
	class, _ := last(without(s, classCm))
	return class
}

// without is s but for the runes of these classes at its end.
func without(s string, these ...int) string {
unlike:
	for s != "" {
		class, width := last(s)
		switch {
		case isAny(class, these...):
			s = s[:len(s)-width]
		default:
			break unlike
		}
	}
	return s
}

// withoutOne is s but for the last rune that is no mark, and the marks behind it, if it is of one of these classes.
func withoutOne(s string, these ...int) string {
	body := without(s, classCm)
	if class, width := last(body); isAny(class, these...) {
		return body[:len(body)-width]
	}
	return s
}
