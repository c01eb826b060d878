package fold

import (
	"strings"
	"unicode/utf8"

	"kerf/api"
	"kerf/grapheme"
	"kerf/utf"
)

// The great letter whose small form hangs on what stands around it, and the form that it has at the end of a word.
const (
	sigma      = 0x3a3
	finalSigma = 0x3c2
)

// The classes of chapter 11 that are passed over, by their numbers among the names of api.GraphemeProps.
const (
	classExtend = 4
	classZWJ    = 5
	classMark   = 6
)

// appendForm lays a form of r, with which rest begins, behind b.
func (l *letters) appendForm(b []byte, rest string, r rune, kind int) []byte {
	if f, ok := l.specials[r]; ok {
		became := f.by[kind]
		for _, part := range became.list[:became.long] {
			b = utf8.AppendRune(b, part)
		}
		return b
	}
	small, great := l.pairs.of(r)
	if kind == toSmall || kind == toFolded {
		return appendRune(b, rest, r, small)
	}
	return appendRune(b, rest, r, great)
}

// appendSmall lays the small form of r, which stands at a place of s, behind b.
func (l *letters) appendSmall(b []byte, s string, at int, r rune) []byte {
	if r == sigma && l.final(s, at) {
		return utf8.AppendRune(b, finalSigma)
	}
	return l.appendForm(b, s[at:], r, toSmall)
}

// appendTitled lays a piece of s behind b: the first of its runes that is cased in its title form, the others as they
// are among small letters. What is final is so in s, not in the piece.
func (l *letters) appendTitled(b []byte, s string, from, to int) []byte {
	titled := false
	for at, r := range s[from:to] {
		at += from
		if !titled && l.cased(r) {
			titled = true
			b = l.appendForm(b, s[at:], r, toTitle)
			continue
		}
		b = l.appendSmall(b, s, at, r)
	}
	return b
}

// appendRune lays what r, with which rest begins, became behind b. A fault becomes nothing else: it stays its byte.
func appendRune(b []byte, rest string, r, became rune) []byte {
	if r == api.Instead && !strings.HasPrefix(rest, "\ufffd") {
		return append(b, rest[0])
	}
	return utf8.AppendRune(b, became)
}

// final is whether the sigma at a place of s is. It looks no further than to the next runes that are not passed over,
// and sigma is none that is: so many of them in a row look at nothing twice from the same side.
func (l *letters) final(s string, at int) bool {
	return l.endsCased(s[:at]) && !l.beginsCased(s[at+utf8.RuneLen(sigma):])
}

// endsCased is whether the last rune of s that is not passed over is cased.
func (l *letters) endsCased(s string) bool {
	for s != "" {
		r, width := utf.Last(s)
		if !passedOver(r) {
			return l.cased(r)
		}
		s = s[:len(s)-width]
	}
	return false
}

// beginsCased is whether the first rune of s that is not passed over is cased.
func (l *letters) beginsCased(s string) bool {
	for _, r := range s {
		if !passedOver(r) {
			return l.cased(r)
		}
	}
	return false
}

func passedOver(r rune) bool {
	switch r {
	case 0x27, 0x2e, 0x3a, 0xb7, 0x2019:
		return true
	}
	switch grapheme.Class(r) {
	case classExtend, classZWJ, classMark:
		return true
	}
	return false
}
