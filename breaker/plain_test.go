package breaker_test

import (
	"math"
	"math/rand"
	"reflect"
	"slices"
	"strings"
	"testing"

	"kerf/api"
	"kerf/breaker"
	"kerf/dfa"
	"kerf/pattern"
	"kerf/props"
	"kerf/rules"
)

// What stands here is the chapter spelt out as plainly as can be, on the calls of the layers below: the tests hold the package against it.

// The classes of fewProps: Other 0, A 1, B 2, C 3. They have runes of one to four bytes, and a fault has one of its own.
const fewProps = "'a' U+00E1 U+1F600 ; A\n'b' U+4E00 ; B\nU+FFFD U+0301 ; C\n"

// fewRunes are some of each class, and bytes that are faults where they stand alone.
var fewRunes = []string{"a", "\u00e1", "\U0001f600", "b", "\u4e00", "\ufffd", "\u0301", "x", "\u20ac", "\U0010ffff", "\x80", "\xff", "\xe2\x82", "\xf0\x9f\x98", "\xc3"}

func set(classes ...int) api.Pattern { return api.Pattern{Op: api.PatSet, Classes: classes} }

func then(kids ...api.Pattern) api.Pattern { return api.Pattern{Op: api.PatThen, Kids: kids} }

func or(kids ...api.Pattern) api.Pattern { return api.Pattern{Op: api.PatOr, Kids: kids} }

func many(kid api.Pattern) api.Pattern {
	return api.Pattern{Op: api.PatMany, Kids: []api.Pattern{kid}}
}

var empty = api.Pattern{}

// row is so many nodes that match the empty list.
func row(nodes int) api.Pattern {
	return api.Pattern{Op: api.PatThen, Kids: make([]api.Pattern, nodes-1)}
}

// wide is A, and so many others behind it: seen from the end of a list it has twice as many sets with each of them.
func wide(others int) api.Pattern {
	p := then(set(1))
	for range others {
		p.Kids = append(p.Kids, set(0, 1, 2, 3))
	}
	return p
}

// db is the database of a text that it must take.
func db(t *testing.T, text string) *props.Db {
	t.Helper()
	d, e, line := props.New(text)
	if e != api.OK {
		t.Fatalf("props.New(%.80q): %d, %d", text, e, line)
	}
	return d
}

// made is the breaker of a database and of rules that it must take.
func made(t *testing.T, d *props.Db, rs api.RuleSet) *breaker.Breaker {
	t.Helper()
	b, e, n := breaker.New(d, rs)
	if e != api.OK || n != 0 || b == nil {
		t.Fatalf("New: %v, %d, %d", b, e, n)
	}
	return b
}

// parsed is the breaker of two texts that it must take.
func parsed(t *testing.T, props, rules string) *breaker.Breaker {
	t.Helper()
	b, e, n := breaker.Parse(props, rules)
	if e != api.OK || n != 0 || b == nil {
		t.Fatalf("Parse(%.80q, %.80q): %v, %d, %d", props, rules, b, e, n)
	}
	return b
}

// plainEdges are the places where the runes of s begin, and its length.
func plainEdges(s string) []int {
	var l []int
	for at := range s {
		l = append(l, at)
	}
	return append(l, len(s))
}

func plainBounds(d *props.Db, rs api.RuleSet, s string) []int {
	edges, c := plainEdges(s), d.Of(s)
	var l []int
	for k, at := range edges {
		if cut, _ := rules.Decide(rs, c, k); cut {
			l = append(l, at)
		}
	}
	return l
}

func plainNext(bounds []int, s string, at int) int {
	least := len(s)
	for _, x := range bounds {
		if x > at && x < least {
			least = x
		}
	}
	return least
}

func plainPrev(bounds []int, at int) int {
	greatest := 0
	for _, x := range bounds {
		if x < at && x > greatest {
			greatest = x
		}
	}
	return greatest
}

func plainAround(bounds []int, at int) (int, int) {
	for i, x := range bounds {
		if i > 0 && bounds[i-1] <= at && at < x {
			return bounds[i-1], x
		}
	}
	return 0, 0
}

func plainRule(d *props.Db, rs api.RuleSet, s string, at int) int {
	k := slices.Index(plainEdges(s), at)
	if k < 0 {
		return -1
	}
	_, n := rules.Decide(rs, d.Of(s), k)
	return n
}

func all(classes int) api.Pattern {
	p := set()
	for c := range classes {
		p.Classes = append(p.Classes, c)
	}
	return many(p)
}

func plainLeft(r api.Rule, classes int) (api.Dfa, api.Errno) {
	if r.Start {
		return dfa.Of(r.Left, classes)
	}
	return dfa.Of(then(all(classes), r.Left), classes)
}

func plainRight(r api.Rule, classes int) (api.Dfa, api.Errno) {
	if r.End {
		return dfa.Of(pattern.Reverse(r.Right), classes)
	}
	return dfa.Of(then(all(classes), pattern.Reverse(r.Right)), classes)
}

// plainError is the first error of New, and its number.
func plainError(d *props.Db, rs api.RuleSet) (api.Errno, int) {
	if d == nil {
		return api.ErrArg, 0
	}
	classes := len(d.Names())
	if e, n := rules.Check(rs, classes); e != api.OK {
		return e, n
	}
	for n, r := range rs.Rules {
		if _, e := plainLeft(r, classes); e != api.OK {
			return e, n
		}
		if _, e := plainRight(r, classes); e != api.OK {
			return e, n
		}
	}
	return api.OK, 0
}

// around are all places of s, some below 0, and some above its length.
func around(s string) []int {
	l := []int{math.MinInt, math.MinInt + 1, -9, -2, math.MaxInt - 1, math.MaxInt}
	for at := -1; at <= len(s)+2; at++ {
		l = append(l, at)
	}
	return l
}

// pair is what Each and Back tell.
type pair struct{ from, to int }

func pairs(seq func(func(int, int) bool)) []pair {
	var l []pair
	for from, to := range seq {
		l = append(l, pair{from, to})
	}
	return l
}

// held is whether b tells of s, at every place of it, what d and rs do by chapter 8.
func held(t *testing.T, b *breaker.Breaker, d *props.Db, rs api.RuleSet, s string) {
	t.Helper()
	bounds := plainBounds(d, rs, s)
	if got := b.Bounds(s); !slices.Equal(got, bounds) {
		t.Fatalf("%q, %v: Bounds %v; want %v", s, rs, got, bounds)
	}
	var want []pair
	for i := 1; i < len(bounds); i++ {
		want = append(want, pair{bounds[i-1], bounds[i]})
	}
	if got := pairs(b.Each(s)); !slices.Equal(got, want) {
		t.Fatalf("%q, %v: Each %v; want %v", s, rs, got, want)
	}
	if got := b.Count(s); got != len(want) {
		t.Fatalf("%q, %v: Count %d; want %d", s, rs, got, len(want))
	}
	slices.Reverse(want)
	if got := pairs(b.Back(s)); !slices.Equal(got, want) {
		t.Fatalf("%q, %v: Back %v; want %v", s, rs, got, want)
	}
	for _, at := range around(s) {
		if got := b.Is(s, at); got != slices.Contains(bounds, at) {
			t.Fatalf("%q, %v: Is at %d: %v", s, rs, at, got)
		}
		if got, want := b.Next(s, at), plainNext(bounds, s, at); got != want {
			t.Fatalf("%q, %v: Next at %d: %d; want %d", s, rs, at, got, want)
		}
		if got, want := b.Prev(s, at), plainPrev(bounds, at); got != want {
			t.Fatalf("%q, %v: Prev at %d: %d; want %d", s, rs, at, got, want)
		}
		from, to := b.Around(s, at)
		if x, y := plainAround(bounds, at); from != x || to != y {
			t.Fatalf("%q, %v: Around at %d: %d, %d; want %d, %d", s, rs, at, from, to, x, y)
		}
		if got, want := b.Rule(s, at), plainRule(d, rs, s, at); got != want {
			t.Fatalf("%q, %v: Rule at %d: %d; want %d", s, rs, at, got, want)
		}
	}
}

// unchanged is whether b has the automata, the rules and the database of d and rs.
func unchanged(t *testing.T, b *breaker.Breaker, d *props.Db, rs api.RuleSet) {
	t.Helper()
	if got := b.Rules(); !same(got, rs) {
		t.Fatalf("Rules %v; want %v", got, rs)
	}
	if b.Db() != d {
		t.Fatalf("another database")
	}
	for n, r := range rs.Rules {
		left, _ := plainLeft(r, len(d.Names()))
		if got := b.Left(n); !reflect.DeepEqual(got, left) {
			t.Fatalf("%v: Left(%d) %v; want %v", rs, n, got, left)
		}
		right, _ := plainRight(r, len(d.Names()))
		if got := b.Right(n); !reflect.DeepEqual(got, right) {
			t.Fatalf("%v: Right(%d) %v; want %v", rs, n, got, right)
		}
	}
}

// same is whether two sets of rules are the same in all that they hold, nil and an empty list apart.
func same(a, b api.RuleSet) bool {
	return a.Rest == b.Rest && slices.EqualFunc(a.Rules, b.Rules, func(a, b api.Rule) bool {
		return a.Break == b.Break && a.Start == b.Start && a.End == b.End && samePattern(a.Left, b.Left) && samePattern(a.Right, b.Right)
	})
}

func samePattern(a, b api.Pattern) bool {
	return a.Op == b.Op && slices.Equal(a.Classes, b.Classes) && slices.EqualFunc(a.Kids, b.Kids, samePattern)
}

// copied shares nothing with rs.
func copied(rs api.RuleSet) api.RuleSet {
	out := api.RuleSet{Rest: rs.Rest}
	for _, r := range rs.Rules {
		r.Left, r.Right = copiedPattern(r.Left), copiedPattern(r.Right)
		out.Rules = append(out.Rules, r)
	}
	return out
}

func copiedPattern(p api.Pattern) api.Pattern {
	q := api.Pattern{Op: p.Op, Classes: slices.Clone(p.Classes)}
	for _, k := range p.Kids {
		q.Kids = append(q.Kids, copiedPattern(k))
	}
	return q
}

// spoil writes over all that rs holds, the spare room of its lists too.
func spoil(rs api.RuleSet) {
	l := rs.Rules[:cap(rs.Rules)]
	for i := range l {
		spoilPattern(l[i].Left)
		spoilPattern(l[i].Right)
		l[i] = api.Rule{Break: !l[i].Break, Start: true, Left: api.Pattern{Op: -7}}
	}
}

func spoilPattern(p api.Pattern) {
	l := p.Classes[:cap(p.Classes)]
	for i := range l {
		l[i] = -7
	}
	kids := p.Kids[:cap(p.Kids)]
	for i := range kids {
		spoilPattern(kids[i])
		kids[i] = api.Pattern{Op: -7}
	}
}

// spoilDfa writes over all that d holds, the spare room of its lists too.
func spoilDfa(d api.Dfa) {
	take := d.Take[:cap(d.Take)]
	for i := range take {
		take[i] = 7
	}
	rows := d.Next[:cap(d.Next)]
	for i := range rows {
		row := rows[i][:cap(rows[i])]
		for j := range row {
			row[j] = 7
		}
		rows[i] = nil
	}
}

// somePattern is a good one, with at most about so many nodes.
func somePattern(r *rand.Rand, classes, size int) api.Pattern {
	if size <= 1 || r.Intn(8) == 0 {
		if r.Intn(5) == 0 {
			return empty
		}
		var l []int
		for c := range classes {
			if r.Intn(2) == 0 {
				l = append(l, c)
			}
		}
		return set(l...)
	}
	switch n := 2 + r.Intn(2); r.Intn(7) {
	case 0, 1, 2, 3:
		p := api.Pattern{Op: api.PatThen + r.Intn(2)}
		for range n {
			p.Kids = append(p.Kids, somePattern(r, classes, size/n))
		}
		return p
	default:
		return api.Pattern{Op: api.PatMany + r.Intn(3), Kids: []api.Pattern{somePattern(r, classes, size-1)}}
	}
}

// someRules are at most so many, all of them good.
func someRules(r *rand.Rand, classes, most int) api.RuleSet {
	rs := api.RuleSet{Rest: r.Intn(2) == 0}
	for range r.Intn(most + 1) {
		rs.Rules = append(rs.Rules, api.Rule{
			Break: r.Intn(2) == 0, Start: r.Intn(4) == 0, End: r.Intn(4) == 0,
			Left: somePattern(r, classes, r.Intn(9)), Right: somePattern(r, classes, r.Intn(9)),
		})
	}
	return rs
}

// someText is of runes of all classes of fewProps, and of faults.
func someText(r *rand.Rand, most int) string {
	var b strings.Builder
	for range r.Intn(most + 1) {
		b.WriteString(fewRunes[r.Intn(len(fewRunes))])
	}
	return b.String()
}
