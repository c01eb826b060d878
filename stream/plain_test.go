package stream_test

import (
	"math/rand"
	"slices"
	"strings"
	"testing"
	"unicode/utf8"

	"kerf/api"
	"kerf/pattern"
	"kerf/props"
	"kerf/rules"
	"kerf/stream"
)

// What stands here is section 10.1 of the chapter spelt out as plainly as can be: all of the text is kept, and everything is found anew after each piece. The tests hold the package against it.

// The classes of fewProps: Other 0, A 1, B 2, C 3, and D 4, which no rune has. They have runes of one to four bytes; a fault has the class C.
const fewProps = "'a' U+00E1 U+1F600 ; A\n'b' U+4E00 ; B\nU+FFFD U+0301 ; C\n; D\n"

const fewClasses = 5

// fewRunes are some of each class, and bytes that are faults, or held, where they stand alone.
var fewRunes = []string{"a", "\u00e1", "\U0001f600", "b", "\u4e00", "\ufffd", "\u0301", "x", "\u20ac", "\U0010ffff", "\x80", "\xff", "\xe2\x82", "\xf0\x9f\x98", "\xc3"}

var empty = api.Pattern{}

func set(classes ...int) api.Pattern { return api.Pattern{Op: api.PatSet, Classes: classes} }

func then(kids ...api.Pattern) api.Pattern { return api.Pattern{Op: api.PatThen, Kids: kids} }

func or(kids ...api.Pattern) api.Pattern { return api.Pattern{Op: api.PatOr, Kids: kids} }

func many(kid api.Pattern) api.Pattern {
	return api.Pattern{Op: api.PatMany, Kids: []api.Pattern{kid}}
}

// row is so many nodes that match the empty list.
func row(nodes int) api.Pattern {
	return api.Pattern{Op: api.PatThen, Kids: make([]api.Pattern, nodes-1)}
}

func with(l ...api.Rule) api.RuleSet { return api.RuleSet{Rules: l} }

// db is the database of a text that it must take.
func db(t *testing.T, text string) *props.Db {
	t.Helper()
	d, e, line := props.New(text)
	if e != api.OK {
		t.Fatalf("props.New(%.80q): %d, %d", text, e, line)
	}
	return d
}

// read is the rules of a text that must be one.
func read(t *testing.T, d *props.Db, text string) api.RuleSet {
	t.Helper()
	rs, e, line := rules.Parse(text, d.Names())
	if e != api.OK {
		t.Fatalf("rules.Parse(%.80q): %d, %d", text, e, line)
	}
	return rs
}

// made is the stream of a database and of rules that it must take.
func made(t *testing.T, d *props.Db, rs api.RuleSet) *stream.Stream {
	t.Helper()
	x, e := stream.New(d, rs)
	if e != api.OK || x == nil {
		t.Fatalf("New: %v, %d", x, e)
	}
	return x
}

// plainHeld is how many bytes at the end of s are a beginning of some rune, and not the whole.
func plainHeld(s string) int {
	for n := min(3, len(s)); n > 0; n-- {
		if !utf8.FullRuneInString(s[len(s)-n:]) {
			return n
		}
	}
	return 0
}

// plainEdges are the places where the runes of s begin.
func plainEdges(s string) []int {
	var l []int
	for at := range s {
		l = append(l, at)
	}
	return l
}

// plainBounds are those of s, by chapter 8.
func plainBounds(d *props.Db, rs api.RuleSet, s string) []int {
	c := d.Of(s)
	var l []int
	for k, at := range append(plainEdges(s), len(s)) {
		if cut, _ := rules.Decide(rs, c, k); cut {
			l = append(l, at)
		}
	}
	return l
}

// anything is whether p matches any list at all.
func anything(p api.Pattern) bool {
	switch p.Op {
	case api.PatSet:
		return len(p.Classes) > 0
	case api.PatThen:
		return !slices.ContainsFunc(p.Kids, func(k api.Pattern) bool { return !anything(k) })
	case api.PatOr, api.PatSome:
		return slices.ContainsFunc(p.Kids, anything)
	}
	return true
}

// could is whether there is a list d, an empty one too, for which p matches c with d behind it.
func could(p api.Pattern, c []int) bool {
	if !anything(p) {
		return false
	}
	switch p.Op {
	case api.PatEmpty:
		return len(c) == 0
	case api.PatSet:
		return len(c) == 0 || len(c) == 1 && slices.Contains(p.Classes, c[0])
	case api.PatThen:
		return couldThen(p.Kids, c)
	case api.PatOr:
		return slices.ContainsFunc(p.Kids, func(k api.Pattern) bool { return could(k, c) })
	case api.PatMay:
		return len(c) == 0 || could(p.Kids[0], c)
	}
	// Some lists that the Kid matches, and then the beginning of one more.
	if p.Op == api.PatMany && len(c) == 0 {
		return true
	}
	for k := range len(c) + 1 {
		if pattern.Matches(many(p.Kids[0]), c[:k]) && could(p.Kids[0], c[k:]) {
			return true
		}
	}
	return false
}

// couldThen is could of Kids one behind the other, of which each matches something.
func couldThen(kids []api.Pattern, c []int) bool {
	if could(kids[0], c) {
		return true
	}
	for _, k := range pattern.Ends(kids[0], c) {
		if len(kids) > 1 && couldThen(kids[1:], c[k:]) {
			return true
		}
	}
	return false
}

// plainSettled is whether the place number at is settled, if c are the classes of the whole runes, and what is said of it.
func plainSettled(rs api.RuleSet, c []int, at int) (settled, cut bool) {
	if at == 0 {
		return true, true
	}
	say, open := rs.Rest, []bool{}
	for _, r := range rs.Rules {
		ahead := r
		ahead.End, ahead.Right = false, empty
		if !rules.Applies(ahead, c, at) {
			continue
		}
		if !r.End && len(pattern.Ends(r.Right, c[at:])) > 0 {
			say = r.Break
			break
		}
		if could(r.Right, c[at:]) {
			open = append(open, r.Break)
		}
	}
	return !slices.Contains(open, !say), say
}

// model is a stream that keeps everything.
type model struct {
	d      *props.Db
	rs     api.RuleSet
	text   string
	looked int // how many places were looked through
	told   int
}

func (m *model) whole() string { return m.text[:len(m.text)-plainHeld(m.text)] }

func (m *model) write(p string) []int {
	m.text += p
	edges, c := plainEdges(m.whole()), m.d.Of(m.whole())
	var l []int
	for ; m.looked < len(edges); m.looked++ {
		settled, cut := plainSettled(m.rs, c, m.looked)
		if !settled {
			break
		}
		if cut {
			l = append(l, edges[m.looked])
		}
	}
	m.told += len(l)
	return l
}

func (m *model) end() []int {
	var l []int
	edges := append(plainEdges(m.text), len(m.text))
	for _, at := range plainBounds(m.d, m.rs, m.text) {
		if slices.Index(edges, at) >= m.looked {
			l = append(l, at)
		}
	}
	*m = model{d: m.d, rs: m.rs}
	return l
}

func (m *model) open() int { return len(plainEdges(m.whole())) - m.looked }

// counts is whether x tells the numbers of m.
func (m *model) counts(t *testing.T, x *stream.Stream) {
	t.Helper()
	if x.Len() != len(m.text) || x.Held() != plainHeld(m.text) || x.Open() != m.open() || x.Told() != m.told {
		t.Fatalf("%v: behind %q: Len %d, Held %d, Open %d, Told %d; want %d, %d, %d, %d",
			m.rs, m.text, x.Len(), x.Held(), x.Open(), x.Told(), len(m.text), plainHeld(m.text), m.open(), m.told)
	}
}

// held is whether x, which is at the beginning of a text, tells of these pieces what the chapter says, piece by piece and at the end. All that is told is answered.
func held(t *testing.T, x *stream.Stream, d *props.Db, rs api.RuleSet, pieces ...string) []int {
	t.Helper()
	m := &model{d: d, rs: rs}
	m.counts(t, x)
	var all []int
	for _, p := range pieces {
		b := []byte(p)
		got, want := x.Write(b), m.write(p)
		clear(b) // what was written is the stream's no more
		if !slices.Equal(got, want) {
			t.Fatalf("%v: Write(%q), the text then %q: %v; want %v", rs, p, m.text, got, want)
		}
		all = append(all, got...)
		clear(got[:cap(got)])
		m.counts(t, x)
	}
	whole := m.text
	got, want := x.End(), m.end()
	if !slices.Equal(got, want) {
		t.Fatalf("%v: End of %q: %v; want %v", rs, whole, got, want)
	}
	all = append(all, got...)
	clear(got[:cap(got)])
	m.counts(t, x)
	return all
}

// by is s in pieces of so many bytes.
func by(s string, long int) []string {
	var l []string
	for ; len(s) > long; s = s[long:] {
		l = append(l, s[:long])
	}
	return append(l, s)
}

// cut is s in pieces that end behind the bytes whose bits are set in where.
func cut(s string, where int) []string {
	var l []string
	from := 0
	for i := range len(s) {
		if where>>i&1 == 1 {
			l, from = append(l, s[from:i+1]), i+1
		}
	}
	return append(l, s[from:])
}

// someCuts is s in pieces, some of them empty.
func someCuts(r *rand.Rand, s string) []string {
	var l []string
	for len(s) > 0 {
		n := r.Intn(min(len(s), 6) + 1)
		l, s = append(l, s[:n]), s[n:]
	}
	return l
}

// somePattern is a good one, with at most about so many nodes.
func somePattern(r *rand.Rand, size int) api.Pattern {
	if size <= 1 || r.Intn(8) == 0 {
		if r.Intn(5) == 0 {
			return empty
		}
		var l []int
		for c := range fewClasses {
			if r.Intn(2) == 0 {
				l = append(l, c)
			}
		}
		return set(l...)
	}
	switch n := 2 + r.Intn(2); r.Intn(7) {
	case 0, 1, 2, 3:
		p := api.Pattern{Op: api.PatThen + r.Intn(2)}
		for range n {
			p.Kids = append(p.Kids, somePattern(r, size/n))
		}
		return p
	default:
		return api.Pattern{Op: api.PatMany + r.Intn(3), Kids: []api.Pattern{somePattern(r, size-1)}}
	}
}

// someRules are at most so many, all of them good.
func someRules(r *rand.Rand, most int) api.RuleSet {
	rs := api.RuleSet{Rest: r.Intn(2) == 0}
	for range r.Intn(most + 1) {
		rs.Rules = append(rs.Rules, api.Rule{
			Break: r.Intn(2) == 0, Start: r.Intn(4) == 0, End: r.Intn(4) == 0,
			Left: somePattern(r, r.Intn(9)), Right: somePattern(r, r.Intn(12)),
		})
	}
	return rs
}

// someText is of runes of all classes of fewProps, and of faults.
func someText(r *rand.Rand, most int) string {
	var b strings.Builder
	for range r.Intn(most + 1) {
		b.WriteString(fewRunes[r.Intn(len(fewRunes))])
	}
	return b.String()
}

// spoil writes over all that rs holds, the spare room of its lists too.
func spoil(rs api.RuleSet) {
	l := rs.Rules[:cap(rs.Rules)]
	for i := range l {
		spoilPattern(l[i].Left)
		spoilPattern(l[i].Right)
		l[i] = api.Rule{Break: !l[i].Break, Start: !l[i].Start, End: !l[i].End, Left: set(2)}
	}
}

func spoilPattern(p api.Pattern) {
	l := p.Classes[:cap(p.Classes)]
	for i := range l {
		l[i] = 3
	}
	kids := p.Kids[:cap(p.Kids)]
	for i := range kids {
		spoilPattern(kids[i])
		kids[i] = set(0)
	}
}

// TestPlainCould holds could against lists d that are tried one by one.
func TestPlainCould(t *testing.T) {
	var tails [][]int
	last := [][]int{{}}
	for range 4 {
		tails = append(tails, last...)
		var next [][]int
		for _, d := range last {
			for class := range fewClasses {
				next = append(next, append(slices.Clone(d), class))
			}
		}
		last = next
	}
	r := rand.New(rand.NewSource(100))
	yes := 0
	for range 400 {
		p := somePattern(r, 3) // too few nodes for a list d that would have to be longer
		c := make([]int, r.Intn(4))
		for i := range c {
			c[i] = r.Intn(fewClasses)
		}
		want := slices.ContainsFunc(tails, func(d []int) bool { return pattern.Matches(p, slices.Concat(c, d)) })
		if could(p, c) != want {
			t.Fatalf("%v, %v: %v", p, c, !want)
		}
		if want {
			yes++
		}
	}
	if yes < 50 || yes > 350 {
		t.Errorf("%d of 400", yes)
	}
}
