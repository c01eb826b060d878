package runes_test

import (
	"fmt"
	"math"
	"math/rand"
	"regexp"
	"slices"
	"strconv"
	"strings"

	"kerf/api"
)

// What stands here is the chapter spelt out as plainly as can be, with nothing of the package: the tests hold the package against it.

// set is a list of ranges: each Lo, then its Hi.
func set(l ...rune) []api.Range {
	var out []api.Range
	for i := 0; i+1 < len(l); i += 2 {
		out = append(out, api.Range{Lo: l[i], Hi: l[i+1]})
	}
	return out
}

// means: whether r is in the set that l means.
func means(l []api.Range, r rune) bool {
	for _, g := range l {
		if 0 <= r && r <= 0x10ffff && g.Lo <= r && r <= g.Hi {
			return true
		}
	}
	return false
}

// turns are the runes at which something may begin or end, by any of these lists: 0 among them, and, last, what is behind the greatest rune. Between two of them all runes are alike.
func turns(lists ...[]api.Range) []int {
	l := []int{0, 0x110000}
	for _, x := range lists {
		for _, g := range x {
			l = append(l, int(g.Lo), int(g.Hi)+1)
		}
	}
	slices.Sort(l)
	l = slices.Compact(l)
	return slices.DeleteFunc(l, func(n int) bool { return n < 0 || n > 0x110000 })
}

// normal is the normal form of the set of all runes of which in holds; in is one whose turns are these.
func normal(turns []int, in func(rune) bool) []api.Range {
	var l []api.Range
	for i := 0; i+1 < len(turns); i++ {
		lo, hi := rune(turns[i]), rune(turns[i+1]-1)
		if !in(lo) {
			continue
		}
		if len(l) > 0 && l[len(l)-1].Hi == lo-1 {
			l[len(l)-1].Hi = hi
		} else {
			l = append(l, api.Range{Lo: lo, Hi: hi})
		}
	}
	return l
}

// normalOf is the normal form of what l means.
func normalOf(l []api.Range) []api.Range {
	return normal(turns(l), func(r rune) bool { return means(l, r) })
}

// runesIn are all runes of what l means, rising.
func runesIn(l []api.Range) []rune {
	var out []rune
	for r := rune(0); r <= 0x10ffff; r++ {
		if means(l, r) {
			out = append(out, r)
		}
	}
	return out
}

// near are runes at and about the ends of the ranges of these lists, and numbers that are no runes.
func near(lists ...[]api.Range) []rune {
	l := []rune{math.MinInt32, -2, -1, 0, 1, 0xd7ff, 0xd800, 0xdfff, 0xe000, 0x10fffe, 0x10ffff, 0x110000, 0x110001, math.MaxInt32}
	for _, n := range turns(lists...) {
		l = append(l, rune(n-2), rune(n-1), rune(n), rune(n+1))
	}
	slices.Sort(l)
	return slices.Compact(l)
}

// small are lists whose sets are so small that all their runes can be gone over each time.
func small() [][]api.Range {
	l := [][]api.Range{
		nil, {}, set(97, 97), set(97, 102), set(97, 102, 99, 104, 105, 105, 5, 3), set('0', '9', 'a', 'f'),
		set(5, 3), set(5, 4), set(1, 0), set(0, -1), set(5, 3, 4, 4), set(4, 4, 5, 3), // Hi below Lo
		set(math.MaxInt32, math.MinInt32), set(0x10ffff, 0), set(7, 7, 9, 2),
		set(-5, -1), set(-5, 0), set(-5, 3), set(math.MinInt32, 2), set(math.MinInt32, -1), set(-1, -1), set(-1, 0), // below 0
		set(0x110000, 0x110000), set(0x110000, math.MaxInt32), set(0x10ffff, math.MaxInt32), set(0x10fffe, 0x110000), set(0x10ffff, 0x10ffff), // above the greatest
		set(math.MaxInt32, math.MaxInt32, 3, 3), set(0x10fffe, 0x10fffe, 0x10ffff, 0x10ffff), set(0x10ffff, 0x10ffff, 0, 0),
		set(0, 0), set(0, 0, 1, 1), set(0, 0, 2, 2), set(0, 1),
		set(10, 12, 13, 15), set(10, 12, 14, 15), set(13, 15, 10, 12), set(14, 15, 10, 12), // which touch, or nearly
		set(10, 20, 12, 14), set(12, 14, 10, 20), set(10, 20, 10, 12), set(10, 12, 10, 20), set(10, 20, 18, 20), set(18, 20, 10, 20), // one in the other
		set(10, 20, 15, 25, 5, 11), set(10, 10, 10, 10), set(10, 12, 12, 14, 14, 16), set(20, 22, 10, 12, 15, 17, 13, 13),
		set(1, 1, 3, 3, 5, 5, 7, 7), set(7, 7, 5, 5, 3, 3, 1, 1), set(1, 1, 3, 3, 5, 5, 7, 7, 2, 6), set(1, 1, 3, 3, 2, 2),
		set(0xd7fe, 0xe001), set(0xd800, 0xdfff), set(0xfffd, 0xfffd), set(' ', ' '), set('\'', '\''),
		set(0xffff, 0xffff, 0x10000, 0x10000), set(0xfff, 0x1000, 0xfffff, 0x100000),
	}
	rnd := rand.New(rand.NewSource(3))
	for range 150 {
		var x []api.Range
		for range rnd.Intn(9) {
			lo := rune(rnd.Intn(40) - 5)
			x = append(x, api.Range{Lo: lo, Hi: lo + rune(rnd.Intn(8)-2)})
		}
		l = append(l, x)
	}
	return l
}

// great are lists of great sets.
func great() [][]api.Range {
	l := [][]api.Range{
		set(0, 0x10ffff), set(math.MinInt32, math.MaxInt32), set(-1, 0x110000), set(0, 0x10fffe), set(1, 0x10ffff),
		set(0, 0xffff, 0x10000, 0x10ffff), set(0, 0xffff, 0x10001, 0x10ffff), set(0x8000, math.MaxInt32, math.MinInt32, 0x7fff),
		set(0, 0xd7ff, 0xe000, 0x10ffff), set(0x80, 0x7ff), set(0x10000, 0x10ffff, 0x80, 0x7ff, 0x700, 0x20000),
	}
	rnd := rand.New(rand.NewSource(4))
	for range 40 {
		var x []api.Range
		for range rnd.Intn(12) {
			lo := rune(rnd.Intn(0x110000+2000) - 1000)
			x = append(x, api.Range{Lo: lo, Hi: lo + rune(rnd.Intn(0x20000)-0x2000)})
		}
		l = append(l, x)
	}
	return l
}

func lists() [][]api.Range { return append(small(), great()...) }

// mark is a rune of a text: from and to are its places.
type mark struct {
	from, to int
	r        rune
	bad      bool
}

// marks are those of s, by its bytes.
func marks(s string) []mark {
	var l []mark
	for at := 0; at < len(s); {
		m := mark{at, at + 1, 0xfffd, true}
		for n := 1; n <= 4 && at+n <= len(s); n++ {
			if r := []rune(s[at : at+n]); len(r) == 1 && string(r) == s[at:at+n] {
				m = mark{at, at + n, r[0], false}
				break
			}
		}
		l = append(l, m)
		at = m.to
	}
	return l
}

func ofText(s string) []api.Range {
	var l []api.Range
	for _, m := range marks(s) {
		l = append(l, api.Range{Lo: m.r, Hi: m.r})
	}
	return normalOf(l)
}

func keptOf(s string, l []api.Range) string {
	var kept string
	for _, m := range marks(s) {
		if means(l, m.r) {
			kept += s[m.from:m.to]
		}
	}
	return kept
}

func trimmedOf(s string, l []api.Range) (int, int) {
	var out []mark
	for _, m := range marks(s) {
		if !means(l, m.r) {
			out = append(out, m)
		}
	}
	if out == nil {
		return len(s), len(s)
	}
	return out[0].from, out[len(out)-1].to
}

// runsOf are from and to of each run, one behind the other.
func runsOf(s string, l []api.Range) []int {
	var out []int
	for _, m := range marks(s) {
		switch {
		case !means(l, m.r):
		case len(out) > 0 && out[len(out)-1] == m.from:
			out[len(out)-1] = m.to
		default:
			out = append(out, m.from, m.to)
		}
	}
	return out
}

// texts are those that nearly every test of texts goes over.
func texts() []string {
	l := []string{
		"", "a", "b", "aab\xffa", "a\xff\u20acb", "  x ", " ", "   ", "x", " \xff ", "\xff", "\xff\xff", "\xff\xff\xff", "a\xff", "\xffa", "\xffa\xff",
		"\xff\xfeaa\x80\x80", "\xe2\x82", "\xe2\x82a", "a\xe2\x82\xac\xac", "\xed\xa0\x80", "\xf4\x90\x80\x80", "\xc0\x80", "\xf0\x9f\x98",
		"\ufffd", "\ufffd\xff", "\xff\ufffd\xef\xbf", "a\ufffdb", "\x00", "\x00\x01\x02", "\U0010ffff", "\u00e9\u20ac\U0001f600", "\ud7ff\ue000",
		"abcabc", "aXbXc", "0123456789abcdef", "\x0a\x0c\x0e\x10\x14", "\u4e00\u4e01\u4e03", " a b ", "a  a", "\U0010fffe\U0010ffff",
	}
	rnd := rand.New(rand.NewSource(5))
	parts := []string{"a", "b", "c", " ", "\x05", "\x06", "\x07", "\u00e9", "\u20ac", "\ufffd", "\U0001f600", "\U0010ffff", "\xff", "\x80", "\xe2", "\xe2\x82", "\xf0\x9f"}
	for range 150 {
		var b strings.Builder
		for range rnd.Intn(14) {
			b.WriteString(parts[rnd.Intn(len(parts))])
		}
		l = append(l, b.String())
	}
	return l
}

// sieves are lists that are held against texts.
func sieves() [][]api.Range {
	return append(lists(), set('a', 'a', 0xfffd, 0xfffd), set('a', 'b'), set(0, 0xfffc, 0xfffe, 0x10ffff), set(0xfffc, 0xfffc), set(0xfffe, 0xfffe),
		set(0x80, 0xff), set(0xff, 0xff), set(0x20ac, 0x20ac), set(0x10000, 0x10ffff), set('b', 'a'), set('c', 'c', 'a', 'a', 0x20, 0x20))
}

// printed is the spelling of what l means.
func printed(l []api.Range) string {
	var items []string
	for _, g := range normalOf(l) {
		if g.Lo == g.Hi {
			items = append(items, fmt.Sprintf("U+%04X", g.Lo))
		} else {
			items = append(items, fmt.Sprintf("U+%04X-U+%04X", g.Lo, g.Hi))
		}
	}
	return strings.Join(items, " ")
}

var (
	codeForm  = regexp.MustCompile(`^U\+([0-9A-F]*)`)
	quoteForm = regexp.MustCompile(`^'((?s:.))'`)
)

// fail is an error, and its place.
type fail struct {
	e  api.Errno
	at int
}

// spelt reads one rune's spelling at at: the rune, and what is behind it.
func spelt(s string, at int) (rune, int, fail) {
	if m := quoteForm.FindStringSubmatch(s[at:]); m != nil {
		q := marks(m[1])[0]
		if q.bad {
			return 0, 0, fail{api.ErrFault, at + 1}
		}
		return q.r, at + len(m[0]), fail{}
	}
	if m := codeForm.FindStringSubmatch(s[at:]); m != nil && len(m[1]) >= 4 && len(m[1]) <= 6 {
		n, _ := strconv.ParseInt(m[1], 16, 64)
		if n > 0x10ffff {
			return 0, 0, fail{api.ErrHex, at}
		}
		return rune(n), at + len(m[0]), fail{}
	}
	return 0, 0, fail{api.ErrRune, at}
}

// parsed is what s spells, or its first error.
func parsed(s string) ([]api.Range, fail) {
	var l []api.Range
	at := 0
	for {
		at += len(s[at:]) - len(strings.TrimLeft(s[at:], " "))
		if at == len(s) {
			return normalOf(l), fail{}
		}
		begin := at
		lo, at2, f := spelt(s, at)
		if f != (fail{}) {
			return nil, f
		}
		hi := lo
		if strings.HasPrefix(s[at2:], "-") {
			if hi, at2, f = spelt(s, at2+1); f != (fail{}) {
				return nil, f
			}
		}
		if hi < lo {
			return nil, fail{api.ErrEnds, begin}
		}
		if at = at2; at < len(s) && s[at] != ' ' {
			return nil, fail{api.ErrRune, at}
		}
		l = append(l, api.Range{Lo: lo, Hi: hi})
	}
}
