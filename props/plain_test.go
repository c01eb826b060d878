package props_test

import (
	"fmt"
	"math"
	"math/rand"
	"regexp"
	"slices"
	"strings"
	"unicode/utf8"

	"kerf/api"
	"kerf/runes"
)

// What stands here is the chapter spelt out as plainly as can be, with nothing of the package: the tests hold the package against it.

// plain is a database: its names by their numbers, and what its lines say, as they stand.
type plain struct {
	names []string
	said  []api.Ranged
}

func (p plain) class(r rune) int {
	if r < 0 || r > 0x10ffff {
		r = 0xfffd
	}
	for _, g := range p.said {
		if g.Lo <= r && r <= g.Hi {
			return g.Class
		}
	}
	return 0
}

// turns are the numbers at which something may begin or end: 0 among them, and, last, what is behind the greatest rune. Between two of them all runes are alike.
func (p plain) turns() []rune {
	l := []rune{0, 0x110000}
	for _, g := range p.said {
		l = append(l, g.Lo, g.Hi+1)
	}
	slices.Sort(l)
	return slices.Compact(l)
}

// parts are all runes by their classes, in ranges as long as can be.
func (p plain) parts() []api.Ranged {
	var out []api.Ranged
	l := p.turns()
	for i := range len(l) - 1 {
		c := p.class(l[i])
		if k := len(out) - 1; k >= 0 && out[k].Class == c {
			out[k].Hi = l[i+1] - 1
		} else {
			out = append(out, api.Ranged{Lo: l[i], Hi: l[i+1] - 1, Class: c})
		}
	}
	return out
}

func (p plain) set(class int) []api.Range {
	var out []api.Range
	for _, g := range p.parts() {
		if g.Class == class {
			out = append(out, api.Range{Lo: g.Lo, Hi: g.Hi})
		}
	}
	return out
}

func (p plain) ranged() []api.Ranged {
	return slices.DeleteFunc(p.parts(), func(g api.Ranged) bool { return g.Class == 0 })
}

func (p plain) text() string {
	var b strings.Builder
	for c := 1; c < len(p.names); c++ {
		for _, g := range p.set(c) {
			if g.Lo == g.Hi {
				fmt.Fprintf(&b, "U+%04X ", g.Lo)
			} else {
				fmt.Fprintf(&b, "U+%04X-U+%04X ", g.Lo, g.Hi)
			}
		}
		fmt.Fprintf(&b, "; %s\n", p.names[c])
	}
	return b.String()
}

// marked is a rune of a text by its place and its class.
type marked struct{ at, class int }

func (p plain) marks(s string) []marked {
	var out []marked
	for at := 0; at < len(s); {
		r, n := utf8.DecodeRuneInString(s[at:])
		out = append(out, marked{at, p.class(r)})
		at += n
	}
	return out
}

// fail is an error, and its line.
type fail struct {
	e    api.Errno
	line int
}

var (
	aheadOfRemark = regexp.MustCompile(`^(?s:'.'|[^#])*`)
	aheadOfSemi   = regexp.MustCompile(`^(?s:'.'|[^;])*`)
	nameForm      = regexp.MustCompile(`^[A-Za-z][A-Za-z0-9_]{0,31}$`)
)

// plainName: whether s is a name. ($ holds ahead of an end of line only where that is asked for.)
func plainName(s string) bool { return nameForm.MatchString(s) }

// plainOf is what the text says, or its first error.
func plainOf(text string) (plain, fail) {
	p := plain{names: []string{"Other"}}
	if len(text) > 65536 {
		return plain{}, fail{api.ErrLong, 0}
	}
	for i, line := range strings.Split(text, "\n") {
		if e := p.line(line); e != api.OK {
			return plain{}, fail{e, i + 1}
		}
	}
	return p, fail{}
}

func (p *plain) line(line string) api.Errno {
	line = strings.Trim(aheadOfRemark.FindString(line), " \t")
	if line == "" {
		return api.OK
	}
	ahead := aheadOfSemi.FindString(line)
	if ahead == line {
		return api.ErrLine
	}
	name := strings.Trim(line[len(ahead)+1:], " \t")
	if !plainName(name) || name == "Other" {
		return api.ErrName
	}
	l, e, _ := runes.Parse(strings.ReplaceAll(ahead, "\t", " "))
	if e != api.OK {
		return e
	}
	class := slices.Index(p.names, name)
	if class < 0 {
		if len(p.names) == 64 {
			return api.ErrMany
		}
		class = len(p.names)
		p.names = append(p.names, name)
	}
	for _, g := range l {
		for _, h := range p.said {
			if h.Class != class && g.Lo <= h.Hi && h.Lo <= g.Hi {
				return api.ErrClash
			}
		}
	}
	for _, g := range l {
		p.said = append(p.said, api.Ranged{Lo: g.Lo, Hi: g.Hi, Class: class})
	}
	return api.OK
}

// crossed is the database that parts runes as both do, or an error.
func crossed(a, b plain) (plain, api.Errno) {
	out := plain{names: []string{"Other"}}
	pairs := []api.Two{{A: 0, B: 0}}
	l := append(a.turns(), b.turns()...)
	slices.Sort(l)
	l = slices.Compact(l)
	for i := range len(l) - 1 {
		two := api.Two{A: a.class(l[i]), B: b.class(l[i])}
		class := slices.Index(pairs, two)
		if class < 0 {
			class = len(pairs)
			pairs = append(pairs, two)
			out.names = append(out.names, a.names[two.A]+"_"+b.names[two.B])
		}
		if class > 0 {
			out.said = append(out.said, api.Ranged{Lo: l[i], Hi: l[i+1] - 1, Class: class})
		}
	}
	if len(pairs) > 64 {
		return plain{}, api.ErrMany
	}
	for _, n := range out.names {
		if len(n) > 32 {
			return plain{}, api.ErrName
		}
	}
	for i, n := range out.names {
		if slices.Index(out.names, n) < i {
			return plain{}, api.ErrThere
		}
	}
	return out, api.OK
}

// odd are numbers that are no runes'.
var odd = []rune{-1, -2, math.MinInt32, math.MinInt32 + 0xfffd, 0x110000, 0x110001, math.MaxInt32}

// good are texts that have no fault.
func good() []string {
	l := []string{
		"", "\n", "\n\n \n\t\n# x\n", "# x", " # 'a' ; A", "#", "; A", ";A", "\t;\tA\t", ";A#", "'a';A", "'a' ; A\n", "'a' ; A", "'#' ; Hash", "';' ; Semi # x",
		"U+0300-U+036F ; Extend # marks\n'a'-'z' U+00E9 ; Letter\n", "'a' ; A\n'a' ; A", "'a'-'c' ; A\n'b'-'z' ; A\n'0' ; B\n'A' ; A\n",
		"U+0000-U+10FFFF ; All", "U+0000 U+10FFFF ; Ends\nU+0001-U+10FFFE ; Between", "U+D800-U+DFFF ; Surrogate\nU+FFFD ; Instead", "U+FFFC-U+FFFE ; Near",
		"'b' ; B\n'a' ; A\n'c' ; B\n", "'a' 'c' 'e' ; A\n'b' 'd' ; B\n", "'b' 'd' ; B\n'a' 'c' 'e' ; A\n'f' ; B", "'m' ; A\n'a'-'z' ; A\n'k'-'n' ; A\n'x'-'~' ; A",
		"'a' ; A\n'b' ; A\n'c' ; A\n'e' ; A\n'd' ; A", "; C\n'a' ; B\n; A\n'b' ; C", "''' ; Q\n' ' ; Blank\n'-'-'/' ; Rest", "'\t' ; Tab", "'\u20ac' '\U0001f600' ; Wide",
		"'\ufffd' ; I\n'a' ; A", "U+0041-U+005A\tU+0061-U+007A ; Letter", "U+FF00-U+FFFF ; Hi\nU+0000-U+00FF ; Lo", "U+10FFFF ; Last", "U+0000 ; First\nU+0002 ; First\nU+0001 ; Second",
		api.GraphemeProps, api.WidthProps, api.SentenceProps, api.WordProps, api.LineProps, api.BidiProps,
	}
	rnd := rand.New(rand.NewSource(1))
	for len(l) < 300 {
		s := strewn(rnd)
		if _, f := plainOf(s); f == (fail{}) {
			l = append(l, s)
		}
	}
	return l
}

// strewn is a text of a few lines, of which the names come again and the runes touch; often one that clashes.
func strewn(rnd *rand.Rand) string {
	var b strings.Builder
	from := []int{0, 'a', 0xfff0, 0x10ffe0}[rnd.Intn(4)]
	for range rnd.Intn(8) {
		for range rnd.Intn(3) {
			lo := from + rnd.Intn(32)
			fmt.Fprintf(&b, "U+%04X-U+%04X ", lo, min(lo+rnd.Intn(4), 0x10ffff))
		}
		fmt.Fprintf(&b, "; %c\n", "ABCDE"[rnd.Intn(5)])
	}
	return b.String()
}

// texts are those whose classes are asked for.
func texts() []string {
	l := []string{
		"", "a", "z", "e\u0301\xff", "\u00e9\u0301a", "\xff", "\xff\xfe\x80", "a\xe2\x82z", "\xed\xa0\x80", "\xf4\x90\x80\x80", "\xc0\x80", "\xf0\x9f\x98",
		"\ufffd", "\ufffd\xff", "\x00", "\U0010ffff", "\U0010fffe\U0010ffff", "\u00e9\u20ac\U0001f600", "\ud7ff\ue000", "abcdefgh", "'#' ;\t\n", " \u200b\r\n", "\ufffc\ufffe",
	}
	rnd := rand.New(rand.NewSource(2))
	parts := []string{"a", "b", "c", "e", " ", "\x01", "\x05", "\u00e9", "\u0301", "\u20ac", "\ufffd", "\U0001f600", "\U0010ffff", "\xff", "\x80", "\xe2", "\xe2\x82", "\xf0\x9f"}
	for range 60 {
		var b strings.Builder
		for range rnd.Intn(14) {
			b.WriteString(parts[rnd.Intn(len(parts))])
		}
		l = append(l, b.String())
	}
	return l
}
