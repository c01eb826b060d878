// Package utf is layer 1: see shared/doc/01-utf.md.
package utf

import (
	"iter"
	"strings"
	"unicode/utf8"

	"kerf/api"
)

// instead is the sequence of api.Instead: a text may hold it in earnest, too, and then it is no fault.
const instead = "\ufffd"

// Decode: P1.1.
func Decode(s string) (rune, int) {
	if s == "" {
		return 0, 0
	}
	return utf8.DecodeRuneInString(s)
}

// Last: P1.1.
func Last(s string) (rune, int) {
	if s == "" {
		return 0, 0
	}
	return utf8.DecodeLastRuneInString(s)
}

// Encode: P1.2.
func Encode(r rune) string { return string(r) }

// Width: P1.2.
func Width(r rune) int {
	switch {
	case r < 0 || r > api.MaxRune || r >= 0xd800 && r <= 0xdfff:
		return 0
	case r <= 0x7f:
		return 1
	case r <= 0x7ff:
		return 2
	case r <= 0xffff:
		return 3
	}
	return 4
}

// Each: P1.3.
func Each(s string) iter.Seq2[int, rune] {
	return func(yield func(int, rune) bool) {
		for at, r := range s {
			if !yield(at, r) {
				return
			}
		}
	}
}

// Runes: P1.3.
func Runes(s string) []rune {
	l := make([]rune, 0, Count(s))
	for _, r := range Each(s) {
		l = append(l, r)
	}
	return l
}

// Text: P1.2.
func Text(l []rune) string { return string(l) }

// Valid: P1.4.
func Valid(s string) bool { return utf8.ValidString(s) }

// Count: P1.4.
func Count(s string) int { return utf8.RuneCountInString(s) }

// Units: P1.4.
func Units(s string) int {
	n := 0
	for _, r := range Each(s) {
		n++
		if r > 0xffff {
			n++
		}
	}
	return n
}

// Faults: P1.4.
func Faults(s string) []int {
	var l []int
	for at, r := range Each(s) {
		if r == api.Instead && !strings.HasPrefix(s[at:], instead) {
			l = append(l, at)
		}
	}
	return l
}

// Clean: P1.4.
func Clean(s string) string {
	if Valid(s) {
		return s
	}
	var b strings.Builder
	b.Grow(len(s) + len(instead))
	for _, r := range Each(s) {
		b.WriteRune(r)
	}
	return b.String()
}
