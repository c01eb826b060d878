package norm

// The Hangul syllables are reckoned: each has one of the first runes, one of the second ones, and one or none of the
// third ones. As a third, thirdNone stands for none.
const (
	syllableFirst = 0xac00
	syllableLast  = 0xd7a3

	firstFirst  = 0x1100
	firstLast   = 0x1112
	secondFirst = 0x1161
	secondLast  = 0x1175
	thirdNone   = 0x11a7
	thirdLast   = 0x11c2

	thirds   = thirdLast - thirdNone + 1
	perFirst = (secondLast - secondFirst + 1) * thirds // syllables that have one first rune
)

func isSyllable(r rune) bool { return r >= syllableFirst && r <= syllableLast }

func isSecond(r rune) bool { return r >= secondFirst && r <= secondLast }

func isThird(r rune) bool { return r > thirdNone && r <= thirdLast }

// appendSyllable lays the runes of which a syllable is made behind a list.
func appendSyllable(list []rune, r rune) []rune {
	n := r - syllableFirst
	list = append(list, firstFirst+n/perFirst, secondFirst+n%perFirst/thirds)
	if n%thirds != 0 {
		list = append(list, thirdNone+n%thirds)
	}
	return list
}

// syllableOf is the syllable that two runes make; 0 and false, if they make none.
func syllableOf(a, b rune) (rune, bool) {
	switch {
	case a >= firstFirst && a <= firstLast && isSecond(b):
		return syllableFirst + (a-firstFirst)*perFirst + (b-secondFirst)*thirds, true
	case isSyllable(a) && (a-syllableFirst)%thirds == 0 && isThird(b):
		return a + b - thirdNone, true
	}
	return 0, false
}
