package grapheme

import "kerf/utf"

// What the classes of two runes, one behind the other, say of the place between them.
const (
	part = iota // a bound
	keep        // none
	hang        // it hangs on what stands further ahead
)

// between tells what two classes say by api.GraphemeRules. What hangs is what its last three rules may hold together:
// they look further back than one rune.
func between(ahead, behind int) int {
	switch {
	case ahead == classCR && behind == classLF:
		return keep
	case alone(ahead) || alone(behind):
		return part
	case behind == classExtend || behind == classZWJ || behind == classMark || ahead == classPrepend:
		return keep
	case syllable(ahead, behind):
		return keep
	case ahead == classZWJ && behind == classPict, ahead == classFlag && behind == classFlag:
		return hang
	}
	return part
}

// alone is whether nothing holds on to a rune of that class, but an LF to its CR.
func alone(class int) bool {
	return class == classCR || class == classLF || class == classControl
}

// syllable is whether two parts of Hangul stand in one syllable.
func syllable(ahead, behind int) bool {
	switch ahead {
	case classL:
		return behind == classL || behind == classV || behind == classH
	case classV, classH:
		return behind == classV || behind == classT
	case classT:
		return behind == classT
	}
	return false
}

// step is the class of the rune that begins at the edge at of s, and the place behind it. The end of a text parts as
// a control does, whatever stands ahead.
func step(s string, at int) (class, next int) {
	if at == len(s) {
		return classControl, at
	}
	r, width := utf.Decode(s[at:])
	return Class(r), at + width
}

// last is the class of the last rune of s, and how many bytes it has.
func last(s string) (class, width int) {
	r, width := utf.Last(s)
	return Class(r), width
}

// first is where the first grapheme of s ends: s is not empty, and begins at a bound of what it may have been cut
// from, so that nothing further ahead has a part in it.
func first(s string) int {
	var (
		at, next      int // where what was read ends, and the rune behind that
		ahead, behind int // the classes of the two runes around at
	)
	ahead, at = step(s, at)

begin:
	switch ahead {
	case classPict:
		goto picture
	case classFlag:
		goto flag
	}

plain:
	// What hangs on what stands further ahead holds together in the states below alone.
	behind, next = step(s, at)
	if between(ahead, behind) != keep {
		return at
	}
	ahead, at = behind, next
	goto begin

picture:
	// ahead stays a picture's where marks stand behind it: both say the same of what comes.
	behind, next = step(s, at)
	switch behind {
	case classExtend:
		at = next
		goto picture
	case classZWJ:
		ahead, at = behind, next
		goto joiner
	}
	goto plain

joiner:
	behind, next = step(s, at)
	if behind == classPict {
		ahead, at = behind, next
		goto picture
	}
	goto plain

flag:
	// A third one, seen from the state plain, hangs on what stands further ahead, and so does not hold together.
	behind, next = step(s, at)
	if behind == classFlag {
		at = next
	}
	goto plain
}

// sure is the greatest bound of s, at the edge at or ahead of it, that two runes alone decide; 0, if there is none.
func sure(s string, at int) int {
	behind, _ := step(s, at)
	for at > 0 {
		ahead, width := last(s[:at])
		if between(ahead, behind) == part {
			break
		}
		behind, at = ahead, at-width
	}
	return at
}

// only is whether all runes of s are of that class.
func only(s string, class int) bool {
	for _, r := range s {
		if Class(r) != class {
			return false
		}
	}
	return true
}
