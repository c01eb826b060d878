package dfa

import "kerf/api"

// How two automata are joined: P7.8.
const (
	either = iota
	both
	first
	one
)

// Least: P7.3.
func Least(d api.Dfa) (api.Dfa, api.Errno) {
	if !good(d) {
		return api.Dfa{}, api.ErrDfa
	}
	return least(d), api.OK
}

// least joins a good automaton with one that takes every list: what both take is what it takes.
func least(d api.Dfa) api.Dfa {
	every := api.Dfa{Classes: d.Classes, Next: [][]int{make([]int, d.Classes)}, Take: []int{1}}
	l, _ := join(d, every, both)
	return l
}

// Join: P7.8.
func Join(a, b api.Dfa, how int) (api.Dfa, api.Errno) {
	switch {
	case !good(a), !good(b):
		return api.Dfa{}, api.ErrDfa
	case a.Classes != b.Classes, how < either, how > one:
		return api.Dfa{}, api.ErrArg
	}
	// Fewer states make fewer pairs.
	d, ok := join(least(a), least(b), how)
	if !ok {
		return api.Dfa{}, api.ErrMany
	}
	return d, api.OK
}

// joined is whether a list is taken that a and b take so: 1 or 0.
func joined(a, b, how int) int {
	switch how {
	case either:
		return a | b
	case both:
		return a & b
	case first:
		return a &^ b
	}
	return a ^ b
}

// join makes the least form; there is none, if it has too many states.
func join(a, b api.Dfa, how int) (api.Dfa, bool) {
	x := newPairs(halfOf(a), halfOf(b))
	x.all()
	x.a.turn()
	x.b.turn()
	p := newParts(x, how)
	if !p.refine() {
		return api.Dfa{}, false
	}
	return p.form()
}

// span is where in items those of a part stand, the marked ones first.
type span struct {
	start, marked, end int
}

// parts are sets of pairs: two are in different ones, if some list has been seen that leads from just one
// of them to what is taken.
type parts struct {
	pairs *pairs
	take  []int   // by pair
	items []int32 // the pairs, part by part
	place []int32 // where in items a pair stands
	part  []int32 // in which part it is
	spans []span
	work  []int  // parts that have yet to split others
	waits []bool // by part: whether it is among these
	hit   []int  // parts in which something is marked
}

func newParts(x *pairs, how int) *parts {
	count := len(x.list)
	p := &parts{pairs: x, items: make([]int32, 0, count), place: make([]int32, count), part: make([]int32, count)}
	for i := range count {
		a, b := x.take(i)
		p.take = append(p.take, joined(a, b, how))
	}
	p.add(0)
	p.add(1)
	if len(p.spans) == 2 {
		// Where all pairs are split by one of the two, they are by the other.
		p.wait(p.smaller(0, 1))
	}
	return p
}

// add makes a part of the pairs that take so, if there are any.
func (p *parts) add(take int) {
	start := len(p.items)
	for i, t := range p.take {
		if t == take {
			p.place[i] = int32(len(p.items))
			p.part[i] = int32(len(p.spans))
			p.items = append(p.items, int32(i))
		}
	}
	if len(p.items) > start {
		p.spans = append(p.spans, span{start: start, marked: start, end: len(p.items)})
		p.waits = append(p.waits, false)
	}
}

func (p *parts) wait(part int) {
	p.waits[part] = true
	p.work = append(p.work, part)
}

func (p *parts) smaller(i, j int) int {
	if p.spans[i].end-p.spans[i].start <= p.spans[j].end-p.spans[j].start {
		return i
	}
	return j
}

// refine splits parts until the pairs of each are alike; it is whether there are not too many then. One of
// them may be that from which nothing is taken, which is no state of the least form.
func (p *parts) refine() bool {
	var by []int32
	for len(p.work) > 0 {
		last := len(p.work) - 1
		part := p.work[last]
		p.work, p.waits[part] = p.work[:last], false
		// The part may split itself: what it was splits the others by all classes none the less.
		by = append(by[:0], p.items[p.spans[part].start:p.spans[part].end]...)
		for c := range p.pairs.a.classes {
			p.markBack(by, c)
			p.split()
			if len(p.spans) > api.MaxSets+1 {
				return false
			}
		}
	}
	return true
}

// markBack marks the pairs from which one comes to some by a class.
func (p *parts) markBack(some []int32, class int) {
	x := p.pairs
	for _, i := range some {
		to := x.list[i]
		behind := x.b.from(class, to.b)
		for _, a := range x.a.from(class, to.a) {
			row := x.met[int(a)*x.b.states:]
			for _, b := range behind {
				if number := row[b]; number != 0 {
					p.mark(number - 1)
				}
			}
		}
	}
}

// mark moves a pair, which is not marked yet, to the marked ones of its part.
func (p *parts) mark(i int32) {
	part := p.part[i]
	s := &p.spans[part]
	if s.marked == s.start {
		p.hit = append(p.hit, int(part))
	}
	from, to := p.place[i], int32(s.marked)
	other := p.items[to]
	p.items[from], p.items[to] = other, i
	p.place[i], p.place[other] = to, from
	s.marked++
}

// split makes a part of its own of what is marked in one, and unmarks it.
func (p *parts) split() {
	for _, part := range p.hit {
		s := p.spans[part]
		if s.marked == s.end {
			p.spans[part].marked = s.start
			continue
		}
		fresh := len(p.spans)
		p.spans = append(p.spans, span{start: s.start, marked: s.start, end: s.marked})
		p.waits = append(p.waits, false)
		p.spans[part] = span{start: s.marked, marked: s.marked, end: s.end}
		for _, i := range p.items[s.start:s.marked] {
			p.part[i] = int32(fresh)
		}
		if p.waits[part] {
			p.wait(fresh)
		} else {
			p.wait(p.smaller(part, fresh))
		}
	}
	p.hit = p.hit[:0]
}

// next is the part to which a class leads from all of one.
func (p *parts) next(part, class int) int {
	to, _ := p.pairs.step(int(p.items[p.spans[part].start]), class)
	return int(p.part[to])
}

// dead is whether nothing is taken from a part. There is one at most, which leads to itself alone.
func (p *parts) dead(part int) bool {
	if p.takes(part) == 1 {
		return false
	}
	for c := range p.pairs.a.classes {
		if p.next(part, c) != part {
			return false
		}
	}
	return true
}

func (p *parts) takes(part int) int {
	return p.take[p.items[p.spans[part].start]]
}

// form is the least form: the parts by the numbers in which one meets them.
func (p *parts) form() (api.Dfa, bool) {
	numbers := make([]int, len(p.spans))
	for i := range numbers {
		numbers[i] = len(p.spans)
		if p.dead(i) {
			numbers[i] = nowhere
		}
	}
	start := int(p.part[0])
	if numbers[start] != nowhere {
		numbers[start] = 0
	}
	d := api.Dfa{Classes: p.pairs.a.classes}
	met := []int{start}
	for i := 0; i < len(met); i++ {
		row := make([]int, d.Classes)
		for c := range row {
			to := p.next(met[i], c)
			if numbers[to] == len(p.spans) {
				numbers[to] = len(met)
				met = append(met, to)
			}
			row[c] = numbers[to]
		}
		d.Next = append(d.Next, row)
		d.Take = append(d.Take, p.takes(met[i]))
	}
	if len(met) > api.MaxSets {
		return api.Dfa{}, false
	}
	return d, true
}
