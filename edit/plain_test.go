package edit_test

import (
	"math"
	"math/rand"
	"slices"
	"strings"
	"testing"

	"kerf/api"
	"kerf/edit"
)

// What stands here is the chapter spelt out as plainly as can be: the tests hold the package against it.

// parts are runes of one byte to four, those that make letters with what stands beside them, and what belongs to no rune, or only to half of one.
var parts = []string{"a", "b", "c", " ", "\n", "\r", "\u00e9", "\u00e8", "\u0301", "\u20ac", "\u4e00", "\U0001f600", "\U0001f1e6", "\u200d", "\u1100", "\u1161", "\xff", "\xe2\x82", "\xe2", "\x82", "\xac", "\xc3", "\xa9", "\xf0\x9f\x98", "\xed\xa0\x80", "\ufffd", "\x00"}

// someText is one of at most so many parts.
func someText(r *rand.Rand, most int) string {
	var b strings.Builder
	for range r.Intn(most + 1) {
		b.WriteString(parts[r.Intn(len(parts))])
	}
	return b.String()
}

// changeOf is a change of a text of n bytes.
func changeOf(n int, l ...api.Edit) api.Change { return api.Change{Len: n, Edits: l} }

// someChange is a good one of a text of n bytes, seldom in normal form.
func someChange(r *rand.Rand, n int) api.Change {
	places := make([]int, 2*r.Intn(5))
	for i := range places {
		places[i] = r.Intn(n + 1)
		if i > 0 && r.Intn(3) == 0 {
			places[i] = places[i-1]
		}
	}
	slices.Sort(places)
	c := api.Change{Len: n}
	for pair := range slices.Chunk(places, 2) {
		c.Edits = append(c.Edits, api.Edit{From: pair[0], To: pair[1], Text: someText(r, r.Intn(4))})
	}
	return c
}

// spoilt is a change that is none, made of another.
func spoilt(r *rand.Rand, c api.Change) api.Change {
	far := []int{-1, -2, c.Len + 1, math.MinInt, math.MaxInt}[r.Intn(5)]
	if r.Intn(4) == 0 {
		return api.Change{Len: min(-1, far), Edits: c.Edits}
	}
	l := slices.Clone(c.Edits)
	at := r.Intn(len(l) + 1)
	switch {
	case far > 0:
		l = slices.Insert(l, at, api.Edit{From: r.Intn(c.Len + 1), To: far})
	case r.Intn(2) == 0:
		l = slices.Insert(l, at, api.Edit{From: far, To: r.Intn(c.Len + 1)})
	default:
		l = slices.Insert(l, at, api.Edit{From: r.Intn(c.Len + 1), To: far})
	}
	return api.Change{Len: c.Len, Edits: l}
}

// changes goes over all good ones of at most so many edits of a text of n bytes.
func changes(n, most int) func(func(api.Change) bool) {
	return func(yield func(api.Change) bool) {
		var more func(l []api.Edit) bool
		more = func(l []api.Edit) bool {
			if !yield(api.Change{Len: n, Edits: l}) {
				return false
			}
			if len(l) == most {
				return true
			}
			at := 0
			if len(l) > 0 {
				at = l[len(l)-1].To
			}
			for from := at; from <= n; from++ {
				for to := from; to <= n; to++ {
					for _, s := range []string{"", "x", "yz"} {
						if !more(append(slices.Clone(l), api.Edit{From: from, To: to, Text: s})) {
							return false
						}
					}
				}
			}
			return true
		}
		more(nil)
	}
}

// alike is whether two changes are the same, edit for edit.
func alike(a, b api.Change) bool { return a.Len == b.Len && slices.Equal(a.Edits, b.Edits) }

// zero is whether a change is the zero answer.
func zero(c api.Change) bool { return c.Len == 0 && len(c.Edits) == 0 }

// plainCheck is P23.1.
func plainCheck(c api.Change) (api.Errno, int) {
	if c.Len < 0 {
		return api.ErrChange, 0
	}
	for i, e := range c.Edits {
		low := e.From < 0 || i > 0 && e.From < c.Edits[i-1].To
		if low || e.To < e.From || e.To > c.Len {
			return api.ErrChange, i
		}
	}
	return api.OK, 0
}

// sign is what stands in a list: the number of a byte that was kept, or none (-1) and a byte that was laid in.
type sign struct {
	kept int
	laid byte
}

// laid are the bytes of a text that was laid in.
func laid(s string) []sign {
	var l []sign
	for i := range len(s) {
		l = append(l, sign{-1, s[i]})
	}
	return l
}

// whole are n bytes that are all kept.
func whole(n int) []sign {
	var l []sign
	for i := range n {
		l = append(l, sign{kept: i})
	}
	return l
}

// made is what a good change makes of a list.
func made(c api.Change, of []sign) []sign {
	var l []sign
	at := 0
	for _, e := range c.Edits {
		l = append(l, of[at:e.From]...)
		l = append(l, laid(e.Text)...)
		at = e.To
	}
	return append(l, of[at:]...)
}

// normal is the change in normal form that makes a list of a text of n bytes: one edit for each stretch between two bytes one behind the other that are kept, in which there is something.
func normal(n int, l []sign) api.Change {
	c := api.Change{Len: n}
	at, text := 0, ""
	for _, x := range append(slices.Clone(l), sign{kept: n}) {
		if x.kept < 0 {
			text += string([]byte{x.laid})
			continue
		}
		if at < x.kept || text != "" {
			c.Edits = append(c.Edits, api.Edit{From: at, To: x.kept, Text: text})
		}
		at, text = x.kept+1, ""
	}
	return c
}

func plainNorm(c api.Change) api.Change { return normal(c.Len, made(c, whole(c.Len))) }

// plainApply is P23.3.
func plainApply(s string, c api.Change) string {
	var b []byte
	for _, x := range made(c, whole(c.Len)) {
		if x.kept < 0 {
			b = append(b, x.laid)
		} else {
			b = append(b, s[x.kept])
		}
	}
	return string(b)
}

// plainInvert is P23.4.
func plainInvert(s string, c api.Change) api.Change {
	v := api.Change{Len: len(plainApply(s, c))}
	more := 0 // how many bytes more there are than were
	for _, e := range plainNorm(c).Edits {
		v.Edits = append(v.Edits, api.Edit{From: e.From + more, To: e.From + more + len(e.Text), Text: s[e.From:e.To]})
		more += len(e.Text) - (e.To - e.From)
	}
	return v
}

// plainCompose is P23.5.
func plainCompose(a, b api.Change) api.Change {
	return normal(a.Len, made(b, made(a, whole(a.Len))))
}

// gap is the text of the edit of a change in normal form that begins there, and keeps is whether it keeps a byte.
func gap(c api.Change, at int) string {
	for _, e := range c.Edits {
		if e.From == at {
			return e.Text
		}
	}
	return ""
}

func keeps(c api.Change, at int) bool {
	return !slices.ContainsFunc(c.Edits, func(e api.Edit) bool { return e.From <= at && at < e.To })
}

// plainTransform is P23.6: both done together, the bytes of what b makes numbered.
func plainTransform(a, b api.Change, first bool) api.Change {
	a, b = plainNorm(a), plainNorm(b)
	var both []sign
	n := 0
	for at := 0; at <= a.Len; at++ {
		mine := laid(gap(a, at))
		if first {
			both = append(both, mine...)
		}
		for range len(gap(b, at)) {
			both = append(both, sign{kept: n})
			n++
		}
		if !first {
			both = append(both, mine...)
		}
		if at == a.Len || !keeps(b, at) {
			continue
		}
		if keeps(a, at) {
			both = append(both, sign{kept: n})
		}
		n++
	}
	return normal(n, both)
}

// plainMove is P23.7.
func plainMove(c api.Change, at int, stay bool) int {
	if e, _ := plainCheck(c); e != api.OK || at < 0 || at > c.Len {
		return at
	}
	c = plainNorm(c)
	n := 0
	for i := range at {
		if keeps(c, i) {
			n++
		}
	}
	for _, e := range c.Edits {
		if e.To < at || e.From <= at && at <= e.To && !stay {
			n += len(e.Text)
		}
	}
	return n
}

// edges are those of a text.
func edges(s string) []int {
	var l []int
	for at := range s {
		l = append(l, at)
	}
	return append(l, len(s))
}

// plainDiff is P23.8.
func plainDiff(s, t string) api.Change {
	if s == t {
		return api.Change{Len: len(s)}
	}
	of, to := edges(s), edges(t)
	p := min(len(s), len(t))
	for s[:p] != t[:p] || !slices.Contains(of, p) || !slices.Contains(to, p) {
		p--
	}
	u, v := s[p:], t[p:]
	q := min(len(u), len(v))
	for u[len(u)-q:] != v[len(v)-q:] || !slices.Contains(of, len(s)-q) || !slices.Contains(to, len(t)-q) {
		q--
	}
	return changeOf(len(s), api.Edit{From: p, To: len(s) - q, Text: t[p : len(t)-q]})
}

// plainTree is that of section 23.2: each node's text, and the change that leads there.
type plainTree struct {
	texts []string
	from  []int
	done  []api.Change
	at    int
}

func plainTreeOf(s string) *plainTree {
	return &plainTree{texts: []string{s}, from: []int{-1}, done: []api.Change{{}}}
}

func (x *plainTree) do(c api.Change) {
	x.texts = append(x.texts, plainApply(x.texts[x.at], c))
	x.from = append(x.from, x.at)
	x.done = append(x.done, c)
	x.at = len(x.texts) - 1
}

func (x *plainTree) kids() []int {
	var l []int
	for i, from := range x.from {
		if from == x.at {
			l = append(l, i)
		}
	}
	return l
}

// line are a node, that of which it is a kid, and so on.
func (x *plainTree) line(node int) []int {
	var l []int
	for ; node >= 0; node = x.from[node] {
		l = append(l, node)
	}
	return l
}

// lead is the change that leads from the node at which one stands to another.
func (x *plainTree) lead(node int) api.Change {
	c := api.Change{Len: len(x.texts[x.at])}
	mine, its := x.line(x.at), x.line(node)
	up := 0
	for !slices.Contains(its, mine[up]) {
		up++
	}
	for _, n := range mine[:up] {
		c = plainCompose(c, plainInvert(x.texts[x.from[n]], x.done[n]))
	}
	for _, n := range slices.Backward(its[:slices.Index(its, mine[up])]) {
		c = plainCompose(c, x.done[n])
	}
	return c
}

// TestPlain holds what stands here against the chapter's examples.
func TestPlain(t *testing.T) {
	if s := plainApply("abcd", changeOf(4, api.Edit{From: 1, To: 2, Text: "X"}, api.Edit{From: 3, To: 3, Text: "YZ"})); s != "aXcYZd" {
		t.Error(s)
	}
	if c := plainTransform(changeOf(1, api.Edit{Text: "a"}), changeOf(1, api.Edit{Text: "b"}), false); !alike(c, changeOf(2, api.Edit{From: 1, To: 1, Text: "a"})) {
		t.Error(c)
	}
	if c := plainDiff("a\u00e9b", "a\u00e8b"); !alike(c, changeOf(4, api.Edit{From: 1, To: 3, Text: "\u00e8"})) {
		t.Error(c)
	}
	r := rand.New(rand.NewSource(230))
	for range 5000 {
		c := someChange(r, r.Intn(8))
		if e, i := plainCheck(c); e != api.OK || i != 0 {
			t.Fatal(c, e, i)
		}
		if c = spoilt(r, c); edit.Long(c) != 0 {
			t.Fatal(c)
		}
		if e, _ := plainCheck(c); e != api.ErrChange {
			t.Fatal(c, e)
		}
	}
}
