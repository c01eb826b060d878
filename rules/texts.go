package rules

import (
	"strings"

	"kerf/api"
	"kerf/pattern"
)

const (
	blanks   = " \t"
	restWord = "rest"
)

// Parse: P8.4.
func Parse(text string, names []string) (api.RuleSet, api.Errno, int) {
	if !named(names) {
		return api.RuleSet{}, api.ErrArg, 0
	}
	if len(text) > api.MaxRuleText {
		return api.RuleSet{}, api.ErrLong, 0
	}
	x := reader{names: names, rs: api.RuleSet{Rest: true}}
	number := 0
	for line := range strings.SplitSeq(text, "\n") {
		number++
		if e := x.read(line); e != api.OK {
			return api.RuleSet{}, e, number
		}
	}
	return x.rs, api.OK, 0
}

// named is whether the names may be those of classes: a pattern's text without a fault is refused for
// nothing else.
func named(names []string) bool {
	_, e, _ := pattern.Parse("", names)
	return e != api.ErrArg
}

// reader reads a text line by line.
type reader struct {
	names []string
	rs    api.RuleSet
	rest  bool // a rest stands in a line ahead
}

// read takes a line in, or tells its first error.
func (x *reader) read(line string) api.Errno {
	line, _, _ = strings.Cut(line, "#")
	line = strings.Trim(line, blanks)
	if line == "" {
		return api.OK
	}
	if strings.Count(line, "~")+strings.Count(line, "/") != 1 || x.rest {
		return api.ErrRule
	}
	left, right, cut := strings.Cut(line, "/")
	if !cut {
		left, right, _ = strings.Cut(line, "~")
	}
	left, right = strings.Trim(left, blanks), strings.Trim(right, blanks)
	if left == restWord {
		return x.readRest(right, cut)
	}
	return x.readRule(left, right, cut)
}

func (x *reader) readRest(behind string, cut bool) api.Errno {
	if behind != "" {
		return api.ErrRule
	}
	x.rest, x.rs.Rest = true, cut
	return api.OK
}

func (x *reader) readRule(left, right string, cut bool) api.Errno {
	if len(x.rs.Rules) == api.MaxRules {
		return api.ErrMany
	}
	r := api.Rule{Break: cut}
	var e api.Errno
	left, r.Start = strings.CutPrefix(left, "^")
	right, r.End = strings.CutSuffix(right, "$")
	if r.Left, e = x.pattern(left); e != api.OK {
		return e
	}
	if r.Right, e = x.pattern(right); e != api.OK {
		return e
	}
	x.rs.Rules = append(x.rs.Rules, r)
	return api.OK
}

// pattern reads a pattern's text; the blanks around it do not count for its length, or a text that was
// printed might be too long to be read.
func (x *reader) pattern(text string) (api.Pattern, api.Errno) {
	p, e, _ := pattern.Parse(strings.Trim(text, blanks), x.names)
	return p, e
}

// Print: P8.5.
func Print(rs api.RuleSet, names []string) (string, api.Errno) {
	if !named(names) {
		return "", api.ErrArg
	}
	if e, _ := Check(rs, len(names)); e != api.OK {
		return "", e
	}
	var out strings.Builder
	for _, r := range rs.Rules {
		line, e := spelled(r, names)
		if e != api.OK {
			return "", e
		}
		out.WriteString(line)
	}
	out.WriteString(restWord + sign(rs.Rest) + "\n")
	if out.Len() > api.MaxRuleText {
		return "", api.ErrLong
	}
	return out.String(), api.OK
}

// spelled is the line of a rule.
func spelled(r api.Rule, names []string) (string, api.Errno) {
	left, e := pattern.Print(r.Left, names)
	if e != api.OK {
		return "", e
	}
	right, e := pattern.Print(r.Right, names)
	if e != api.OK {
		return "", e
	}
	if r.Start {
		left = "^ " + left
	}
	if left == restWord {
		// Else the line would be read as that of the rest.
		left = "(" + left + ")"
	}
	if r.End {
		right += " $"
	}
	return left + sign(r.Break) + " " + right + "\n", api.OK
}

// sign is what says whether one may cut, a blank ahead of it.
func sign(cut bool) string {
	if cut {
		return " /"
	}
	return " ~"
}
