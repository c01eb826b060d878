package stream

// place is one that was not looked through yet.
type place struct {
	at   int      // in bytes
	cut  bool     // what is said there, if none of open matches
	open []chance // the rules that come ahead of the one that says it, in order
}

// chance is a rule that may still match from a place on.
type chance struct {
	*watched
	run *run
}

// settle is whether what is said there is known.
func (p *place) settle() bool {
	p.sift()
	for _, c := range p.open {
		if c.Break != p.cut {
			return false
		}
	}
	p.open = nil
	return true
}

// sift leaves out the rules that are dead, and those behind the first that has matched.
func (p *place) sift() {
	open := p.open[:0]
	for _, c := range p.open {
		c.run = c.run.now()
		if c.run.matched {
			p.cut = c.Break
			break
		}
		if len(c.run.states) > 0 {
			open = append(open, c)
		}
	}
	clear(p.open[len(open):])
	p.open = open
}

// last is what is said there, if no class comes any more.
func (p *place) last() bool {
	for _, c := range p.open {
		// Where End is not set, a run that its automaton takes has matched.
		if c.right.takes(c.run.now().states) {
			return c.Break
		}
	}
	return p.cut
}
