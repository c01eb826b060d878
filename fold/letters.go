package fold

import (
	"strconv"
	"strings"

	"kerf/api"
)

// The kinds of forms, in the order in which a line of api.CaseSpecial has them.
const (
	toSmall = iota
	toGreat
	toTitle
	toFolded
	kinds
)

// line is one of api.CasePairs.
type line struct{ first, last, delta, step rune }

// pairs are the lines of api.CasePairs.
type pairs []line

// form is what a rune becomes: at most three.
type form struct {
	list [3]rune
	long int
}

// forms are those of a rune.
type forms struct{ by [kinds]form }

// letters are what api says of great and small ones. A call reads it anew: nothing is kept from one to the next. So the
// lines of pairs stay lines, of which there are few, and what a call must do first does not hang on how many letters
// they name.
type letters struct {
	pairs    pairs
	specials map[rune]forms
}

func readLetters() letters { return letters{pairs: readPairs(), specials: readSpecials()} }

func readPairs() pairs {
	list := make(pairs, 0, strings.Count(api.CasePairs, "\n"))
	for text := range strings.Lines(api.CasePairs) {
		var n [4]rune
		readNumbers(n[:], text, 10)
		list = append(list, line{first: n[0], last: n[1], delta: n[2], step: n[3]})
	}
	return list
}

func readSpecials() map[rune]forms {
	specials := make(map[rune]forms, strings.Count(api.CaseSpecial, "\n"))
	for text := range strings.Lines(api.CaseSpecial) {
		name, rest, _ := strings.Cut(text, ";")
		var head [1]rune
		readNumbers(head[:], name, 16)
		specials[head[0]] = readForms(rest)
	}
	return specials
}

func readForms(text string) forms {
	var f forms
	kind := 0
	for list := range strings.SplitSeq(text, ";") {
		f.by[kind].long = readNumbers(f.by[kind].list[:], list, 16)
		kind++
	}
	return f
}

// readNumbers fills a list with the numbers of a text, and tells how many there are. The texts of api hold nothing else.
func readNumbers(list []rune, text string, base int) int {
	many := 0
	for field := range strings.FieldsSeq(text) {
		n, _ := strconv.ParseInt(field, base, 32)
		list[many] = rune(n)
		many++
	}
	return many
}

// names is whether r is a great letter of the line.
func (x line) names(r rune) bool {
	return r >= x.first && r <= x.last && (r-x.first)%x.step == 0
}

// of is the small and the great letter of r: r itself, where it has none. No line names what another names. (Numbers that
// are no runes may wrap round here, but not to where a line is.)
func (p pairs) of(r rune) (rune, rune) {
	for _, x := range p {
		if x.names(r) {
			return r + x.delta, r
		}
		if x.names(r - x.delta) {
			return r, r - x.delta
		}
	}
	return r, r
}

func (l *letters) cased(r rune) bool {
	if _, ok := l.specials[r]; ok {
		return true
	}
	small, great := l.pairs.of(r)
	return small != great
}
