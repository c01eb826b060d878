package fold_test

import (
	"math"
	"math/rand"
	"slices"
	"strconv"
	"strings"
	"testing"

	"kerf/api"
	"kerf/props"
	"kerf/utf"
	"kerf/word"
)

// What stands here is the chapter spelt out as plainly as can be, on the calls of the layers below: the tests hold the package against it.

// The kinds of forms, as the lines of api.CaseSpecial have them.
const (
	small = iota
	great
	title
	folded
)

// noRunes are numbers that are none.
var noRunes = []rune{-1, -32, -65, -97, math.MinInt32, math.MinInt32 + 31, math.MinInt32 + 97, 0xd800, 0xdbff, 0xdc00, 0xdfff, 0x110000, 0x110000 + 'A', math.MaxInt32, math.MaxInt32 - 121}

// pairLine is a line of api.CasePairs.
type pairLine struct{ first, last, delta, step int }

// book is what the texts of api say: each letter by itself.
type book struct {
	lines    []pairLine
	smalls   map[rune]rune // of the great letters
	greats   map[rune]rune // of the small ones
	specials map[rune][4][]rune
	named    []rune // those that have special forms, line by line
	passed   map[rune]int
}

func bookOf(t *testing.T) *book {
	t.Helper()
	x := &book{smalls: map[rune]rune{}, greats: map[rune]rune{}, specials: map[rune][4][]rune{}, passed: map[rune]int{0x27: 1, 0x2e: 1, 0x3a: 1, 0xb7: 1, 0x2019: 1}}
	for _, text := range linesOf(t, api.CasePairs) {
		x.readPairs(t, text)
	}
	for _, text := range linesOf(t, api.CaseSpecial) {
		x.readSpecial(t, text)
	}
	x.readPassed(t)
	return x
}

func linesOf(t *testing.T, text string) []string {
	t.Helper()
	rest, ok := strings.CutSuffix(text, "\n")
	if !ok {
		t.Fatal("a line without an end")
	}
	return strings.Split(rest, "\n")
}

func (x *book) readPairs(t *testing.T, text string) {
	t.Helper()
	var n [4]int
	fields := strings.Split(text, " ")
	if len(fields) != len(n) {
		t.Fatal(text)
	}
	for i, field := range fields {
		var err error
		if n[i], err = strconv.Atoi(field); err != nil {
			t.Fatal(text, err)
		}
	}
	line := pairLine{n[0], n[1], n[2], n[3]}
	x.lines = append(x.lines, line)
	for r := line.first; r <= line.last; r += line.step {
		x.smalls[rune(r)] = rune(r + line.delta)
		x.greats[rune(r+line.delta)] = rune(r)
	}
}

func (x *book) readSpecial(t *testing.T, text string) {
	t.Helper()
	var lists [5][]rune
	fields := strings.Split(text, " ; ")
	if len(fields) != len(lists) {
		t.Fatal(text)
	}
	for i, field := range fields {
		for _, digits := range strings.Split(field, " ") {
			n, err := strconv.ParseUint(digits, 16, 21)
			if err != nil {
				t.Fatal(text, err)
			}
			lists[i] = append(lists[i], rune(n))
		}
	}
	r := lists[0][0]
	x.named = append(x.named, r)
	x.specials[r] = [4][]rune(lists[1:])
}

func (x *book) readPassed(t *testing.T) {
	t.Helper()
	d, e, line := props.New(api.GraphemeProps)
	if e != api.OK {
		t.Fatal(e, line)
	}
	names := d.Names()
	for r := rune(0); r <= api.MaxRune; r++ {
		switch names[d.Get(r)] {
		case "Extend", "ZWJ", "Mark":
			x.passed[r] = 1
		}
	}
}

func (x *book) pair(r rune) (rune, rune) {
	a, b := r, r
	if s, ok := x.smalls[r]; ok {
		a = s
	}
	if g, ok := x.greats[r]; ok {
		b = g
	}
	return a, b
}

func (x *book) cased(r rune) bool {
	_, a := x.smalls[r]
	_, b := x.greats[r]
	_, c := x.specials[r]
	return a || b || c
}

func (x *book) form(r rune, kind int) string {
	if f, ok := x.specials[r]; ok {
		return utf.Text(f[kind])
	}
	a, b := x.pair(r)
	if kind == great || kind == title {
		return utf.Encode(b)
	}
	return utf.Encode(a)
}

// element is a rune of a text, or a fault: bad is its byte, then, and r is -1.
type element struct {
	at  int
	r   rune
	bad string
}

func elements(s string) []element {
	faults := utf.Faults(s)
	var l []element
	for at, r := range utf.Each(s) {
		if slices.Contains(faults, at) {
			l = append(l, element{at, -1, s[at : at+1]})
		} else {
			l = append(l, element{at, r, ""})
		}
	}
	return l
}

// first is whether the first element of a list that is not passed over is there, and cased.
func (x *book) first(l []element) bool {
	l = slices.DeleteFunc(l, func(e element) bool { return x.passed[e.r] == 1 })
	return len(l) > 0 && x.cased(l[0].r)
}

// inSmall is what the element number i of a text becomes among small letters.
func (x *book) inSmall(l []element, i int) string {
	if l[i].r == 0x3a3 {
		ahead, behind := slices.Clone(l[:i]), slices.Clone(l[i+1:])
		slices.Reverse(ahead)
		if x.first(ahead) && !x.first(behind) {
			return "\u03c2"
		}
	}
	return x.become(l[i], small)
}

func (x *book) become(e element, kind int) string {
	if e.r < 0 {
		return e.bad
	}
	return x.form(e.r, kind)
}

func (x *book) small(s string) string {
	var b strings.Builder
	l := elements(s)
	for i := range l {
		b.WriteString(x.inSmall(l, i))
	}
	return b.String()
}

func (x *book) title(s string) string {
	var b strings.Builder
	l := elements(s)
	open := false
	for i, e := range l {
		if slices.Contains(word.Bounds(s), e.at) {
			open = true
		}
		if open && x.cased(e.r) {
			open = false
			b.WriteString(x.become(e, title))
		} else {
			b.WriteString(x.inSmall(l, i))
		}
	}
	return b.String()
}

// text is each element of s in its form of that kind.
func (x *book) text(s string, kind int) string {
	var b strings.Builder
	for _, e := range elements(s) {
		b.WriteString(x.become(e, kind))
	}
	return b.String()
}

func (x *book) places(s string) []int {
	var l []int
	for _, e := range elements(s) {
		for range len(x.become(e, folded)) {
			l = append(l, e.at)
		}
	}
	return l
}

func (x *book) begins(s, t string) (int, bool) {
	for n := range len(s) + 1 {
		if utf.Is(s, n) && x.text(s[:n], folded) == x.text(t, folded) {
			return n, true
		}
	}
	return 0, false
}

func (x *book) turned(s string) string {
	var b strings.Builder
	for _, e := range elements(s) {
		a, g := x.pair(e.r)
		switch {
		case e.r < 0:
			b.WriteString(e.bad)
		case a != e.r:
			b.WriteString(utf.Encode(a))
		default:
			b.WriteString(utf.Encode(g))
		}
	}
	return b.String()
}

// parts are great and small letters of many lines, all that have special forms, what these become, what is passed over and what is not, and faults.
var parts = []string{
	"a", "A", "b", "s", "S", "f", "F", "i", "I", "n", "z", "Z", "t", "J", "j", "\u00e9", "\u00c9", "\u00ff", "\u0178", "\u0100", "\u0101", "\u012e", "\u0133", "\u017e",
	"\u0386", "\u03ac", "\u0391", "\u03b1", "\u039f", "\u03a3", "\u03c3", "\u0399", "\u03b9", "\u0416", "\u0436", "\u0400", "\u0450", "\u0531", "\u0535", "\u0565", "\u0552", "\u0582", "\u1e00", "\u1e95", "\u2160", "\u217f", "\uff21", "\uff5a", "\U00010400", "\U0001044f",
	"\u00df", "\u0130", "\u0131", "\u0149", "\u017f", "\u01c4", "\u01c5", "\u01c6", "\u01f0", "\u0390", "\u03c2", "\u0587", "\u1e9e", "\ufb00", "\ufb01", "\ufb02", "\ufb03",
	"\u02bc", "\u030c", "\u0308", "\u0301", "\u0307", "\u200d", "\u0903", "\u200c", "'", ".", ":", "\u00b7", "\u2019",
	" ", "\n", "-", "1", "_", ",", "\u2018", "\u00aa", "\u00d7", "\u00f7", "\u4e00", "\U0001f600", "\ufffd", "\u0138", "\x00",
	"\xff", "\x80", "\xce", "\xe2\x82", "\xc3", "\xf0\x90\x90", "\xed\xa0\x80", "\xef\xbf",
}

// someText is at most so many of the parts, those of some few more often than the others.
func someText(r *rand.Rand, most int) string {
	few := parts
	switch r.Intn(5) {
	case 0:
		few = []string{"\u03a3", "\u0391", "'", "\u0301", " ", "\u03a3", "\u03c2", ":"}
	case 1:
		few = []string{"s", "S", "\u00df", "\u1e9e", "\u017f", "f", "i", "\ufb00", "\ufb01", "\ufb03"}
	case 2:
		few = []string{"a", "B", " ", "1", "'", "\u01c6", "\u0149", ".", "\u03a3"}
	case 3:
		few = []string{"\xff", "\xce", "\u03a3", "\xa3", "\u03b1", "\x91", ".", "\xe2\x82", "\xac"}
	}
	var s strings.Builder
	for range r.Intn(most + 1) {
		if r.Intn(4) == 0 {
			s.WriteString(parts[r.Intn(len(parts))])
		} else {
			s.WriteString(few[r.Intn(len(few))])
		}
	}
	return s.String()
}

// someBytes are at most so many of any value.
func someBytes(r *rand.Rand, most int) string {
	b := make([]byte, r.Intn(most+1))
	for at := range b {
		b[at] = byte(r.Intn(256))
	}
	return string(b)
}

// rows goes over all texts of so many of these parts.
func rows(long int, parts ...string) func(func(string) bool) {
	return func(yield func(string) bool) {
		row := make([]int, long)
		for {
			var s strings.Builder
			for _, i := range row {
				s.WriteString(parts[i])
			}
			if !yield(s.String()) {
				return
			}
			i := 0
			for i < long && row[i] == len(parts)-1 {
				row[i] = 0
				i++
			}
			if i == long {
				return
			}
			row[i]++
		}
	}
}
