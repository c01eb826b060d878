package pattern

import "kerf/api"

// ended is what stands behind the last byte of a text.
const ended = -1

// Name: 5.1.
func Name(s string) bool {
	return s != "" && len(s) <= api.MaxName && letter(int(s[0])) && nameEnd(s, 0) == len(s)
}

// nameEnd is the place behind the bytes from at on that a name may have.
func nameEnd(s string, at int) int {
	for at < len(s) && (letter(int(s[at])) || s[at] >= '0' && s[at] <= '9' || s[at] == '_') {
		at++
	}
	return at
}

func letter(b int) bool {
	return b >= 'A' && b <= 'Z' || b >= 'a' && b <= 'z'
}

// numbered gives each name its class; false if the names may not be.
func numbered(names []string) (map[string]int, bool) {
	if len(names) > api.MaxClasses {
		return nil, false
	}
	classes := map[string]int{}
	for n, name := range names {
		if _, twice := classes[name]; twice || !Name(name) {
			return nil, false
		}
		classes[name] = n
	}
	return classes, true
}

// Parse: P5.1.
func Parse(text string, names []string) (p api.Pattern, e api.Errno, at int) {
	classes, ok := numbered(names)
	if !ok {
		return api.Pattern{}, api.ErrArg, 0
	}
	if len(text) > api.MaxPattern {
		return api.Pattern{}, api.ErrLong, 0
	}
	r := &reader{text: text, classes: classes}
	defer func() {
		switch fault := recover(); fault {
		case nil:
		case r:
			p, e, at = api.Pattern{}, r.fault, r.at
		default:
			panic(fault)
		}
	}()
	p = r.pattern()
	r.take(ended)
	return p, api.OK, 0
}

// reader reads a text from the left; what it gives up with is itself, standing at the fault.
type reader struct {
	text    string
	classes map[string]int
	at      int
	parts   int
	open    int
	fault   api.Errno
}

func (r *reader) giveUp(e api.Errno) {
	r.fault = e
	panic(r)
}

// next is the byte that comes behind the blanks, or ended.
func (r *reader) next() int {
	for ; r.at < len(r.text); r.at++ {
		if b := r.text[r.at]; b != ' ' && b != '\t' {
			return int(b)
		}
	}
	return ended
}

// take goes past what must come now.
func (r *reader) take(wanted int) {
	switch r.next() {
	case wanted:
		r.at++
	case ended:
		r.giveUp(api.ErrShort)
	default:
		r.giveUp(api.ErrSyntax)
	}
}

// part counts the part that begins here.
func (r *reader) part() {
	if r.parts == api.MaxParts {
		r.giveUp(api.ErrMany)
	}
	r.parts++
}

func (r *reader) pattern() api.Pattern {
	branches := []api.Pattern{r.branch()}
	for r.next() == '|' {
		r.part()
		r.at++
		branches = append(branches, r.branch())
	}
	return joined(api.PatOr, branches)
}

func (r *reader) branch() api.Pattern {
	var pieces []api.Pattern
	for b := r.next(); letter(b) || b == '.' || b == '[' || b == '('; b = r.next() {
		pieces = append(pieces, r.piece())
	}
	if pieces == nil {
		return api.Pattern{Op: api.PatEmpty}
	}
	return joined(api.PatThen, pieces)
}

// joined is one node of several Kids, and of one that Kid itself.
func joined(op int, kids []api.Pattern) api.Pattern {
	if len(kids) == 1 {
		return kids[0]
	}
	return api.Pattern{Op: op, Kids: kids}
}

func (r *reader) piece() api.Pattern {
	p := r.atom()
	for op := operator(r.next()); op != api.PatEmpty; op = operator(r.next()) {
		r.part()
		r.at++
		p = api.Pattern{Op: op, Kids: []api.Pattern{p}}
	}
	return p
}

// operator is the Op that the byte makes, or PatEmpty.
func operator(b int) int {
	switch b {
	case '*':
		return api.PatMany
	case '+':
		return api.PatSome
	case '?':
		return api.PatMay
	}
	return api.PatEmpty
}

func (r *reader) atom() api.Pattern {
	r.part()
	switch r.next() {
	case '(':
		return r.group()
	case '[':
		return r.set()
	case '.':
		r.at++
		return r.others(nil)
	}
	return api.Pattern{Op: api.PatSet, Classes: []int{r.name()}}
}

func (r *reader) group() api.Pattern {
	if r.open == api.MaxDepth {
		r.giveUp(api.ErrDeep)
	}
	r.open++
	r.at++
	p := r.pattern()
	r.take(')')
	r.open--
	return p
}

func (r *reader) set() api.Pattern {
	r.at++
	not := r.next() == '^'
	if not {
		r.at++
	}
	named := map[int]int{}
	for letter(r.next()) {
		named[r.name()]++
	}
	r.take(']')
	if not {
		return r.others(named)
	}
	return r.those(func(c int) bool { return named[c] > 0 })
}

// others is the set of all classes but the named.
func (r *reader) others(named map[int]int) api.Pattern {
	return r.those(func(c int) bool { return named[c] == 0 })
}

func (r *reader) those(in func(c int) bool) api.Pattern {
	p := api.Pattern{Op: api.PatSet}
	for c := range len(r.classes) {
		if in(c) {
			p.Classes = append(p.Classes, c)
		}
	}
	return p
}

func (r *reader) name() int {
	end := nameEnd(r.text, r.at)
	if end-r.at > api.MaxName {
		r.giveUp(api.ErrLong)
	}
	class, known := r.classes[r.text[r.at:end]]
	if !known {
		r.giveUp(api.ErrClass)
	}
	r.at = end
	return class
}
