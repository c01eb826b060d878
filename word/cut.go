package word

import "kerf/utf"

// cut is whether api.WordRules part s at the edge at, which stands between two runes of it. Where at is behind a bound
// of s, what stands ahead of that bound has no part in it.
func cut(s string, at int) bool {
	ahead, _ := last(s[:at])
	behind, _ := first(s[at:])
	switch {
	case ahead == classCr && behind == classLf:
		return false
	case ends(ahead) || ends(behind):
		return true
	case ahead == classZwj && behind == classPict, ahead == classSpace && behind == classSpace:
		return false
	}
	// What clings is kept ahead of the look back, so that a long row of it is gone through but once.
	return !clings(behind) && !joined(s, at)
}

// joined is whether one of the rules that look past what clings holds s together at the edge at.
func joined(s string, at int) bool {
	ahead, from := base(s[:at])
	behind, width := first(s[at:])
	switch {
	case together(ahead, behind):
		return true
	case ahead == classRegion && behind == classRegion:
		return odd(s[:at])
	case middle(behind):
		return bridges(ahead, behind, onward(s[at+width:]))
	case middle(ahead):
		further, _ := base(s[:from])
		return bridges(further, ahead, behind)
	}
	return false
}

// ends is whether a rune of that class ends a line.
func ends(class int) bool {
	return class == classCr || class == classLf || class == classNewline
}

// clings is whether a rune of that class belongs to what stands ahead of it.
func clings(class int) bool {
	return class == classExtend || class == classFormat || class == classZwj
}

// letter is whether a rune of that class is a letter to the rules (a Katakana joins others of its kind alone).
func letter(class int) bool {
	return class == classLetter || class == classHebrew
}

// makesWord is whether a piece with a rune of that class is a word.
func makesWord(class int) bool {
	return letter(class) || class == classKatakana || class == classDigit
}

// together is whether runes of two classes are held together, whatever else stands there.
func together(ahead, behind int) bool {
	switch ahead {
	case classLetter, classDigit:
		return letter(behind) || behind == classDigit || behind == classLow
	case classHebrew:
		return letter(behind) || behind == classDigit || behind == classLow || behind == classQuote
	case classKatakana:
		return behind == classKatakana || behind == classLow
	case classLow:
		return makesWord(behind) || behind == classLow
	}
	return false
}

// middle is whether a rune of that class may stand between two that it holds together.
func middle(class int) bool {
	switch class {
	case classMidLetter, classMidNum, classMidNumLet, classQuote, classDouble:
		return true
	}
	return false
}

// bridges is whether a rune of the class mid holds those ahead of it and behind it together.
func bridges(ahead, mid, behind int) bool {
	letters := letter(ahead) && letter(behind)
	digits := ahead == classDigit && behind == classDigit
	switch mid {
	case classMidLetter:
		return letters
	case classMidNum:
		return digits
	case classMidNumLet, classQuote:
		return letters || digits
	case classDouble:
		return ahead == classHebrew && behind == classHebrew
	}
	return false
}

// first is the class of the first rune of s, and how many bytes it has.
func first(s string) (class, width int) {
	r, width := utf.Decode(s)
	return classOf(r), width
}

// last is the class of the last rune of s, and how many bytes it has.
func last(s string) (class, width int) {
	r, width := utf.Last(s)
	return classOf(r), width
}

// base is the class of the last rune of s that does not cling, and where it begins. Where there is none, it is one that
// nothing is held together with.
func base(s string) (class, from int) {
	for s != "" {
		class, width := last(s)
		s = s[:len(s)-width]
		if !clings(class) {
			return class, len(s)
		}
	}
	return classOther, 0
}

// onward is the class of the first rune of s that does not cling; where there is none, as of base.
func onward(s string) int {
	for _, r := range s {
		if class := classOf(r); !clings(class) {
			return class
		}
	}
	return classOther
}

// odd is whether s ends with an odd number of regions, whatever clings to them.
func odd(s string) bool {
	odd := false
	for s != "" {
		class, width := last(s)
		switch {
		case class == classRegion:
			odd = !odd
		case !clings(class):
			return odd
		}
		s = s[:len(s)-width]
	}
	return odd
}
