package stream

import (
	"slices"

	"kerf/api"
)

// watched is a rule, and how far its automata are in the text.
type watched struct {
	api.Rule
	left, right *machine
	entry       []int  // the states in which right begins
	ahead       []int  // those to which left has come ahead of the next place
	runs        []*run // how far right has come, from the places at which the rule is open; by their states
	spare       []int
}

// run is how far a rule's right automaton has come from a place on. What was run from several places, and has come
// to the same states, goes on as one, so that places of which many are open cost no more than few.
type run struct {
	states  []int // none: the rule is dead there
	matched bool
	user    int  // the number of the last place that hangs on it
	into    *run // what goes on in its place
}

func watch(r api.Rule) *watched {
	w := &watched{left: machineOf(r.Left), right: machineOf(r.Right)}
	// Of the rule itself only the flags are kept: its patterns are in the caller's lists.
	w.Break, w.Start, w.End = r.Break, r.Start, r.End
	w.entry = w.right.begin(nil)
	w.begin()
	return w
}

// begin is the beginning of a text.
func (w *watched) begin() {
	w.ahead = w.left.begin(w.ahead[:0])
	w.runs = nil
}

// applies is whether Left matches ahead of the next place.
func (w *watched) applies() bool { return w.left.takes(w.ahead) }

// pass is a class of the text for Left, which may begin behind it anew, if Start is not set.
func (w *watched) pass(class int) {
	now := w.left.step(w.spare[:0], w.ahead, class, !w.Start)
	w.spare, w.ahead = w.ahead, now
}

// enter runs Right from the place of that number on, behind which the class stands: the run, if it is open then,
// and whether it has matched.
func (w *watched) enter(class, place int) (*run, bool) {
	if w.matches(w.entry) {
		return nil, true
	}
	w.spare = w.right.step(w.spare[:0], w.entry, class, false)
	if w.matches(w.spare) {
		return nil, true
	}
	if len(w.spare) == 0 {
		return nil, false
	}
	at, is := slices.BinarySearchFunc(w.runs, w.spare, func(r *run, states []int) int {
		return slices.Compare(r.states, states)
	})
	if !is {
		w.runs = slices.Insert(w.runs, at, &run{states: slices.Clone(w.spare)})
	}
	w.runs[at].user = place
	return w.runs[at], false
}

// matches is whether Right has matched, if it has come to these states.
func (w *watched) matches(states []int) bool { return !w.End && w.right.takes(states) }

// goOn is a class of the text for all that is run. Nothing is run for places with numbers below from any more.
func (w *watched) goOn(class, from int) {
	open := w.runs[:0]
	for _, r := range w.runs {
		if r.user < from {
			continue
		}
		states := w.right.step(w.spare[:0], r.states, class, false)
		w.spare, r.states = r.states, states
		r.matched = w.matches(states)
		if !r.matched && len(states) > 0 {
			open = append(open, r)
		}
	}
	clear(w.runs[len(open):])
	w.runs = merged(open)
}

// merged are the runs by their states, those of the same states as one.
func merged(runs []*run) []*run {
	slices.SortFunc(runs, func(a, b *run) int { return slices.Compare(a.states, b.states) })
	apart := runs[:0]
	for _, r := range runs {
		if n := len(apart); n > 0 && slices.Equal(apart[n-1].states, r.states) {
			r.into, r.states = apart[n-1], nil
			r.into.user = max(r.into.user, r.user)
			continue
		}
		apart = append(apart, r)
	}
	clear(runs[len(apart):])
	return apart
}

// now is what goes on in the place of r. Each way there is made shorter while it is gone, as one run may be merged
// into another as often as a text has runes.
func (r *run) now() *run {
	for r.into != nil {
		if r.into.into != nil {
			r.into = r.into.into
		}
		r = r.into
	}
	return r
}
