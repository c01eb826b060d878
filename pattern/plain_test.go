package pattern_test

import (
	"math/rand"
	"regexp"
	"slices"
	"strings"
	"testing"

	"kerf/api"
	"kerf/pattern"
)

// What stands here is the chapter spelt out as plainly as can be, with nothing of the package: the tests hold the package against it.

var abc = []string{"A", "B", "C"}

func set(classes ...int) api.Pattern { return api.Pattern{Op: api.PatSet, Classes: classes} }

func then(kids ...api.Pattern) api.Pattern { return api.Pattern{Op: api.PatThen, Kids: kids} }

func or(kids ...api.Pattern) api.Pattern { return api.Pattern{Op: api.PatOr, Kids: kids} }

func many(kid api.Pattern) api.Pattern {
	return api.Pattern{Op: api.PatMany, Kids: []api.Pattern{kid}}
}

func some(kid api.Pattern) api.Pattern {
	return api.Pattern{Op: api.PatSome, Kids: []api.Pattern{kid}}
}

func may(kid api.Pattern) api.Pattern {
	return api.Pattern{Op: api.PatMay, Kids: []api.Pattern{kid}}
}

var empty = api.Pattern{}

var plainName = regexp.MustCompile(`^[A-Za-z][A-Za-z0-9_]{0,31}$`)

func plainNames(names []string) bool {
	for i, n := range names {
		if !plainName.MatchString(n) || slices.Contains(names[:i], n) {
			return false
		}
	}
	return len(names) <= 64
}

// frame is what stands in one pair of parentheses: its branches, each its pieces.
type frame [][]api.Pattern

func (f frame) made() api.Pattern {
	var branches []api.Pattern
	for _, pieces := range f {
		switch len(pieces) {
		case 0:
			branches = append(branches, empty)
		case 1:
			branches = append(branches, pieces[0])
		default:
			branches = append(branches, then(pieces...))
		}
	}
	if len(branches) == 1 {
		return branches[0]
	}
	return or(branches...)
}

// token is the token at the beginning of s: a name, blanks, or a byte.
func token(s string) string {
	is := func(b byte) bool {
		return b == '_' || b >= '0' && b <= '9' || b >= 'a' && b <= 'z' || b >= 'A' && b <= 'Z'
	}
	n := 1
	if is(s[0]) && s[0] != '_' && s[0] > '9' {
		for n < len(s) && is(s[n]) {
			n++
		}
	}
	return s[:n]
}

// plainParse reads token by token, with a heap of open parentheses.
func plainParse(text string, names []string) (api.Pattern, api.Errno, int) {
	if !plainNames(names) {
		return empty, api.ErrArg, 0
	}
	if len(text) > 4096 {
		return empty, api.ErrLong, 0
	}
	heap, parts := []frame{{nil}}, 0
	inSet, not, caret := false, false, false
	var named []int
	all := func(keep func(c int) bool) api.Pattern {
		var l []int
		for c := range names {
			if keep(c) {
				l = append(l, c)
			}
		}
		return set(l...)
	}
	for at := 0; at < len(text); {
		tok := token(text[at:])
		f := heap[len(heap)-1]
		b := len(f) - 1
		name := len(tok) > 1 || tok[0] >= 'a' && tok[0] <= 'z' || tok[0] >= 'A' && tok[0] <= 'Z'
		syntax := true
		switch {
		case name, tok == " ", tok == "\t":
			syntax = false
		case inSet:
			syntax = tok != "]" && !(tok == "^" && caret)
		case strings.Contains("*+?", tok):
			syntax = len(f[b]) == 0
		case tok == ")":
			syntax = len(heap) == 1
		case strings.Contains(".[(|", tok):
			syntax = false
		}
		if syntax {
			return empty, api.ErrSyntax, at
		}
		if !inSet && tok != " " && tok != "\t" && tok != ")" {
			if parts++; parts > 512 {
				return empty, api.ErrMany, at
			}
		}
		class := slices.Index(names, tok)
		switch {
		case name && len(tok) > 32:
			return empty, api.ErrLong, at
		case name && class < 0:
			return empty, api.ErrClass, at
		case name && inSet:
			named = append(named, class)
		case name:
			f[b] = append(f[b], set(class))
		case tok == "^":
			not = true
		case tok == "]":
			f[b] = append(f[b], all(func(c int) bool { return slices.Contains(named, c) != not }))
			inSet, not, named = false, false, nil
		case tok == "[":
			inSet = true
		case tok == ".":
			f[b] = append(f[b], all(func(c int) bool { return true }))
		case tok == "*":
			f[b][len(f[b])-1] = many(f[b][len(f[b])-1])
		case tok == "+":
			f[b][len(f[b])-1] = some(f[b][len(f[b])-1])
		case tok == "?":
			f[b][len(f[b])-1] = may(f[b][len(f[b])-1])
		case tok == "|":
			heap[len(heap)-1] = append(f, nil)
		case tok == "(":
			if len(heap) == 33 {
				return empty, api.ErrDeep, at
			}
			heap = append(heap, frame{nil})
		case tok == ")":
			heap = heap[:len(heap)-1]
			g := heap[len(heap)-1]
			g[len(g)-1] = append(g[len(g)-1], f.made())
		}
		caret = tok == "[" || caret && (tok == " " || tok == "\t")
		at += len(tok)
	}
	if inSet || len(heap) > 1 {
		return empty, api.ErrShort, len(text)
	}
	return heap[0].made(), api.OK, 0
}

// plainCheck lays the first nodes out in a row, and looks at one after the other.
func plainCheck(p api.Pattern, classes int) api.Errno {
	for i, q := range plainNodes(p, 2049) {
		if i == 2048 {
			return api.ErrDeep
		}
		least := []int{0, 0, 2, 2, 1, 1, 1}
		most := []int{0, 0, 1 << 40, 1 << 40, 1, 1, 1}
		if q.Op < 0 || q.Op > 6 || len(q.Classes) > 0 && q.Op != 1 || len(q.Kids) < least[q.Op] || len(q.Kids) > most[q.Op] {
			return api.ErrForm
		}
		for j, c := range q.Classes {
			if c < 0 || c >= classes || j > 0 && c <= q.Classes[j-1] {
				return api.ErrClass
			}
		}
	}
	return api.OK
}

// plainNodes are the first nodes of p, a node ahead of its Kids, at most so many.
func plainNodes(p api.Pattern, most int) []api.Pattern {
	var out []api.Pattern
	heap := []api.Pattern{p}
	for len(heap) > 0 && len(out) < most {
		q := heap[0]
		out = append(out, q)
		heap = append(slices.Clone(q.Kids[:min(len(q.Kids), most)]), heap[1:]...)
	}
	return out
}

func plainEqual(a, b api.Pattern) bool {
	return slices.EqualFunc(plainNodes(a, 2048), plainNodes(b, 2048), func(a, b api.Pattern) bool {
		return a.Op == b.Op && slices.Equal(a.Classes, b.Classes) && len(a.Kids) == len(b.Kids)
	})
}

func plainText(p api.Pattern, names []string) string {
	kids := func(bar string, in ...int) string {
		var l []string
		for _, k := range p.Kids {
			s := plainText(k, names)
			if slices.Contains(in, k.Op) {
				s = "(" + s + ")"
			}
			l = append(l, s)
		}
		return strings.Join(l, bar)
	}
	switch p.Op {
	case api.PatSet:
		var l []string
		for _, c := range p.Classes {
			l = append(l, names[c])
		}
		if len(l) == 1 {
			return l[0]
		}
		if len(l) > 0 && len(l) == len(names) {
			return "."
		}
		return "[" + strings.Join(l, " ") + "]"
	case api.PatThen:
		return kids(" ", api.PatThen, api.PatOr)
	case api.PatOr:
		return kids(" | ", api.PatOr)
	case api.PatMany:
		return kids("", api.PatThen, api.PatOr) + "*"
	case api.PatSome:
		return kids("", api.PatThen, api.PatOr) + "+"
	case api.PatMay:
		return kids("", api.PatThen, api.PatOr) + "?"
	}
	return "()"
}

func plainPrint(p api.Pattern, names []string) (string, api.Errno) {
	if !plainNames(names) {
		return "", api.ErrArg
	}
	if e := plainCheck(p, len(names)); e != api.OK {
		return "", e
	}
	s := plainText(p, names)
	if _, e, _ := plainParse(s, names); e != api.OK {
		return "", e
	}
	return s, api.OK
}

// plainMatches follows the words of P5.4, by all ways to cut a list in two.
func plainMatches(p api.Pattern, c []int) bool {
	switch p.Op {
	case api.PatEmpty:
		return len(c) == 0
	case api.PatSet:
		return len(c) == 1 && slices.Contains(p.Classes, c[0])
	case api.PatThen:
		if len(p.Kids) == 1 {
			return plainMatches(p.Kids[0], c)
		}
		for n := range len(c) + 1 {
			if plainMatches(p.Kids[0], c[:n]) && plainMatches(then(p.Kids[1:]...), c[n:]) {
				return true
			}
		}
		return false
	case api.PatOr:
		return slices.ContainsFunc(p.Kids, func(k api.Pattern) bool { return plainMatches(k, c) })
	case api.PatMany:
		return len(c) == 0 || plainMatches(some(p.Kids[0]), c)
	case api.PatSome:
		// A first list of none adds nothing, so that it may be left out where others follow.
		if plainMatches(p.Kids[0], c) {
			return true
		}
		for n := 1; n < len(c); n++ {
			if plainMatches(p.Kids[0], c[:n]) && plainMatches(p, c[n:]) {
				return true
			}
		}
		return false
	}
	return len(c) == 0 || plainMatches(p.Kids[0], c)
}

func plainReverse(p api.Pattern) api.Pattern {
	q := api.Pattern{Op: p.Op, Classes: slices.Clone(p.Classes)}
	for _, k := range p.Kids {
		if p.Op == api.PatThen {
			q.Kids = append([]api.Pattern{plainReverse(k)}, q.Kids...)
		} else {
			q.Kids = append(q.Kids, plainReverse(k))
		}
	}
	return q
}

// lists are all lists of the classes 0 to below classes with at most so many.
func lists(classes, most int) [][]int {
	out := [][]int{nil}
	for from := 0; most > 0; most-- {
		to := len(out)
		for _, l := range out[from:to] {
			for c := range classes {
				out = append(out, append(slices.Clone(l), c))
			}
		}
		from = to
	}
	return out
}

// somePattern is a good one, with at most about so many nodes.
func somePattern(r *rand.Rand, classes, size int) api.Pattern {
	if size <= 1 || r.Intn(8) == 0 {
		if r.Intn(6) == 0 {
			return empty
		}
		var l []int
		for c := range classes {
			if r.Intn(2) == 0 {
				l = append(l, c)
			}
		}
		return set(l...)
	}
	switch n := 2 + r.Intn(2); r.Intn(7) {
	case 0, 1, 2, 3:
		p := api.Pattern{Op: api.PatThen + r.Intn(2)}
		for range n {
			p.Kids = append(p.Kids, somePattern(r, classes, size/n))
		}
		return p
	default:
		return api.Pattern{Op: api.PatMany + r.Intn(3), Kids: []api.Pattern{somePattern(r, classes, size-1)}}
	}
}

func same(a, b api.Pattern) bool {
	return a.Op == b.Op && slices.Equal(a.Classes, b.Classes) && slices.EqualFunc(a.Kids, b.Kids, same)
}

// copied shares nothing with p.
func copied(p api.Pattern) api.Pattern {
	q := api.Pattern{Op: p.Op, Classes: slices.Clone(p.Classes)}
	for _, k := range p.Kids {
		q.Kids = append(q.Kids, copied(k))
	}
	return q
}

// spoil writes over all that p holds, the spare room of its lists too.
func spoil(p api.Pattern) {
	l := p.Classes[:cap(p.Classes)]
	for i := range l {
		l[i] = -7
	}
	kids := p.Kids[:cap(p.Kids)]
	for i := range kids {
		spoil(kids[i])
		kids[i] = api.Pattern{Op: -7}
	}
}

func parsed(t *testing.T, text string, names []string) api.Pattern {
	t.Helper()
	p, e, at := pattern.Parse(text, names)
	if e != api.OK || at != 0 {
		t.Fatalf("Parse(%.80q): %d %d", text, e, at)
	}
	return p
}

// deep is so many nodes, one in the other, the last PatEmpty.
func deep(nodes int) api.Pattern {
	p := empty
	for range nodes - 1 {
		p = may(p)
	}
	return p
}

// wide is a PatOr of so many nodes in all.
func wide(nodes int) api.Pattern {
	return api.Pattern{Op: api.PatOr, Kids: make([]api.Pattern, nodes-1)}
}

// endless holds itself.
func endless() api.Pattern {
	kids := make([]api.Pattern, 1)
	kids[0] = api.Pattern{Op: api.PatSome, Kids: kids}
	return kids[0]
}
