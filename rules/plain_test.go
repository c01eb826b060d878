package rules_test

import (
	"math/rand"
	"regexp"
	"slices"
	"strings"
	"testing"

	"kerf/api"
	"kerf/pattern"
	"kerf/rules"
)

// What stands here is the chapter spelt out as plainly as can be, on chapter 5's calls alone: the tests hold the package against it.

var few = []string{"Other", "Cr", "Lf", "Mark"}

const (
	mayNot = false
	mayCut = true
)

func set(classes ...int) api.Pattern { return api.Pattern{Op: api.PatSet, Classes: classes} }

func then(kids ...api.Pattern) api.Pattern { return api.Pattern{Op: api.PatThen, Kids: kids} }

func or(kids ...api.Pattern) api.Pattern { return api.Pattern{Op: api.PatOr, Kids: kids} }

func many(kid api.Pattern) api.Pattern {
	return api.Pattern{Op: api.PatMany, Kids: []api.Pattern{kid}}
}

func may(kid api.Pattern) api.Pattern {
	return api.Pattern{Op: api.PatMay, Kids: []api.Pattern{kid}}
}

var empty = api.Pattern{}

// endless holds itself, and is not good.
func endless() api.Pattern {
	kids := make([]api.Pattern, 1)
	kids[0] = api.Pattern{Op: api.PatSome, Kids: kids}
	return kids[0]
}

// notGood are patterns that are not good, each for a reason of its own.
func notGood() []api.Pattern {
	return []api.Pattern{{Op: 7}, {Op: -1}, {Classes: []int{0}}, then(empty), or(), {Op: api.PatMany}, {Op: api.PatSet, Kids: []api.Pattern{{}}}, set(1, 0), set(0, 0), set(-1), set(1<<31 - 1), many(set(-3)), row(2049), endless()}
}

// row is so many nodes that match the empty list.
func row(nodes int) api.Pattern {
	return api.Pattern{Op: api.PatThen, Kids: make([]api.Pattern, nodes-1)}
}

// plainApplies tries all beginnings and all ends.
func plainApplies(r api.Rule, c []int, at int) bool {
	if at < 0 || at > len(c) {
		return false
	}
	left, right := false, false
	for k := range at + 1 {
		left = left || (k == 0 || !r.Start) && pattern.Matches(r.Left, c[k:at])
	}
	for k := at; k <= len(c); k++ {
		right = right || (k == len(c) || !r.End) && pattern.Matches(r.Right, c[at:k])
	}
	return left && right
}

func plainDecide(rs api.RuleSet, c []int, at int) (bool, int) {
	switch {
	case len(c) == 0, at < 0, at > len(c):
		return false, -1
	case at == 0, at == len(c):
		return true, -1
	}
	n := slices.IndexFunc(rs.Rules, func(r api.Rule) bool { return plainApplies(r, c, at) })
	if n < 0 {
		return rs.Rest, -1
	}
	return rs.Rules[n].Break, n
}

var (
	plainName = regexp.MustCompile(`^[A-Za-z][A-Za-z0-9_]{0,31}$`)
	remark    = regexp.MustCompile(`(?s)#.*`)
	outer     = regexp.MustCompile(`^[ \t]+|[ \t]+$`)
	signs     = regexp.MustCompile(`[~/]`)
)

func plainNames(names []string) bool {
	for i, n := range names {
		if !plainName.MatchString(n) || slices.Contains(names[:i], n) {
			return false
		}
	}
	return len(names) <= 64
}

func bare(s string) string { return outer.ReplaceAllString(s, "") }

func plainParse(text string, names []string) (api.RuleSet, api.Errno, int) {
	if !plainNames(names) {
		return api.RuleSet{}, api.ErrArg, 0
	}
	if len(text) > 16384 {
		return api.RuleSet{}, api.ErrLong, 0
	}
	rs, rest := api.RuleSet{Rest: true}, false
	for i, line := range strings.Split(text, "\n") {
		line = bare(remark.ReplaceAllString(line, ""))
		if line == "" {
			continue
		}
		found := signs.FindAllStringIndex(line, -1)
		if len(found) != 1 || rest {
			return api.RuleSet{}, api.ErrRule, i + 1
		}
		at := found[0][0]
		l, r, cut := bare(line[:at]), bare(line[at+1:]), line[at] == '/'
		if l == "rest" {
			if r != "" {
				return api.RuleSet{}, api.ErrRule, i + 1
			}
			rest, rs.Rest = true, cut
			continue
		}
		if len(rs.Rules) == 64 {
			return api.RuleSet{}, api.ErrMany, i + 1
		}
		x := api.Rule{Break: cut}
		if x.Start = l != "" && l[0] == '^'; x.Start {
			l = bare(l[1:])
		}
		if x.End = r != "" && r[len(r)-1] == '$'; x.End {
			r = bare(r[:len(r)-1])
		}
		var e api.Errno
		if x.Left, e, _ = pattern.Parse(l, names); e != api.OK {
			return api.RuleSet{}, e, i + 1
		}
		if x.Right, e, _ = pattern.Parse(r, names); e != api.OK {
			return api.RuleSet{}, e, i + 1
		}
		rs.Rules = append(rs.Rules, x)
	}
	return rs, api.OK, 0
}

func plainCheck(rs api.RuleSet, classes int) (api.Errno, int) {
	if len(rs.Rules) > 64 {
		return api.ErrMany, 0
	}
	for n, r := range rs.Rules {
		for _, p := range []api.Pattern{r.Left, r.Right} {
			if e := pattern.Check(p, classes); e != api.OK {
				return e, n
			}
		}
	}
	return api.OK, 0
}

func plainPrint(rs api.RuleSet, names []string) (string, api.Errno) {
	if !plainNames(names) {
		return "", api.ErrArg
	}
	if e, _ := plainCheck(rs, len(names)); e != api.OK {
		return "", e
	}
	mark := map[bool]string{mayNot: "~", mayCut: "/"}
	s := ""
	for _, r := range rs.Rules {
		left, e := pattern.Print(r.Left, names)
		if e != api.OK {
			return "", e
		}
		right, e := pattern.Print(r.Right, names)
		if e != api.OK {
			return "", e
		}
		if left == "rest" && !r.Start {
			left = "(rest)"
		}
		if r.Start {
			s += "^ "
		}
		s += left + " " + mark[r.Break] + " " + right
		if r.End {
			s += " $"
		}
		s += "\n"
	}
	if s += "rest " + mark[rs.Rest] + "\n"; len(s) > 16384 {
		return "", api.ErrLong
	}
	return s, api.OK
}

// same is whether two sets of rules are the same in all that they hold, nil and an empty list apart.
func same(a, b api.RuleSet) bool {
	return a.Rest == b.Rest && slices.EqualFunc(a.Rules, b.Rules, func(a, b api.Rule) bool {
		return a.Break == b.Break && a.Start == b.Start && a.End == b.End && samePattern(a.Left, b.Left) && samePattern(a.Right, b.Right)
	})
}

func samePattern(a, b api.Pattern) bool {
	return a.Op == b.Op && slices.Equal(a.Classes, b.Classes) && slices.EqualFunc(a.Kids, b.Kids, samePattern)
}

// copied shares nothing with rs.
func copied(rs api.RuleSet) api.RuleSet {
	out := api.RuleSet{Rest: rs.Rest}
	for _, r := range rs.Rules {
		r.Left, r.Right = copiedPattern(r.Left), copiedPattern(r.Right)
		out.Rules = append(out.Rules, r)
	}
	return out
}

func copiedPattern(p api.Pattern) api.Pattern {
	q := api.Pattern{Op: p.Op, Classes: slices.Clone(p.Classes)}
	for _, k := range p.Kids {
		q.Kids = append(q.Kids, copiedPattern(k))
	}
	return q
}

// spoil writes over all that rs holds, the spare room of its lists too.
func spoil(rs api.RuleSet) {
	l := rs.Rules[:cap(rs.Rules)]
	for i := range l {
		spoilPattern(l[i].Left)
		spoilPattern(l[i].Right)
		l[i] = api.Rule{Break: !l[i].Break, Start: true, Left: api.Pattern{Op: -7}}
	}
}

func spoilPattern(p api.Pattern) {
	l := p.Classes[:cap(p.Classes)]
	for i := range l {
		l[i] = -7
	}
	kids := p.Kids[:cap(p.Kids)]
	for i := range kids {
		spoilPattern(kids[i])
		kids[i] = api.Pattern{Op: -7}
	}
}

// made is what Parse makes of a text that it must take.
func made(t *testing.T, text string, names []string) api.RuleSet {
	t.Helper()
	rs, e, line := rules.Parse(text, names)
	if e != api.OK || line != 0 {
		t.Fatalf("Parse(%.80q): %d, %d", text, e, line)
	}
	return rs
}

// somePattern is a good one, with at most about so many nodes.
func somePattern(r *rand.Rand, classes, size int) api.Pattern {
	if size <= 1 || r.Intn(8) == 0 {
		if r.Intn(5) == 0 {
			return empty
		}
		var l []int
		for c := range classes {
			if r.Intn(2) == 0 {
				l = append(l, c)
			}
		}
		return set(l...)
	}
	switch n := 2 + r.Intn(2); r.Intn(7) {
	case 0, 1, 2, 3:
		p := api.Pattern{Op: api.PatThen + r.Intn(2)}
		for range n {
			p.Kids = append(p.Kids, somePattern(r, classes, size/n))
		}
		return p
	default:
		return api.Pattern{Op: api.PatMany + r.Intn(3), Kids: []api.Pattern{somePattern(r, classes, size-1)}}
	}
}

func someRule(r *rand.Rand, classes int) api.Rule {
	return api.Rule{Break: r.Intn(2) == 0, Start: r.Intn(4) == 0, End: r.Intn(4) == 0, Left: somePattern(r, classes, r.Intn(7)), Right: somePattern(r, classes, r.Intn(7))}
}

// someRules are at most so many, all of them good.
func someRules(r *rand.Rand, classes, most int) api.RuleSet {
	rs := api.RuleSet{Rest: r.Intn(2) == 0}
	for range r.Intn(most + 1) {
		rs.Rules = append(rs.Rules, someRule(r, classes))
	}
	return rs
}

// wrongRules are some of which a pattern may be not good.
func wrongRules(r *rand.Rand, classes, most int) api.RuleSet {
	rs, bad := someRules(r, classes, most), notGood()
	for n := range rs.Rules {
		if r.Intn(3) == 0 {
			rs.Rules[n].Left = bad[r.Intn(len(bad))]
		}
		if r.Intn(3) == 0 {
			rs.Rules[n].Right = bad[r.Intn(len(bad))]
		}
	}
	return rs
}

// someList is of the classes 0 to below classes; odd ones among them, if that is asked.
func someList(r *rand.Rand, classes, most int, odd bool) []int {
	strange := []int{-1, 64, 65, 1 << 31, 1<<31 - 1, -1 << 40, 1 << 40}
	var c []int
	for range r.Intn(most + 1) {
		if odd && r.Intn(4) == 0 {
			c = append(c, strange[r.Intn(len(strange))])
		} else {
			c = append(c, r.Intn(classes))
		}
	}
	return c
}

// traced is what Trace tells; a place that is not the next one ends it.
func traced(t *testing.T, rs api.RuleSet, c []int) []int {
	t.Helper()
	var l []int
	for at, n := range rules.Trace(rs, c) {
		if at != len(l) {
			t.Fatalf("Trace goes to %d behind %d places", at, len(l))
		}
		l = append(l, n)
	}
	return l
}
