package wrap

import (
	"iter"
	"math"

	"kerf/api"
)

// over is how many times more a cell above the room weighs than one that is left free.
const over = 10

// sheet is boxes, and how lines are made of them; Check has no error of them.
type sheet struct {
	boxes []api.Box
	how   api.Wrap
}

// begins is whether a box is its paragraph's first.
func (x sheet) begins(box int) bool { return box == 0 || x.boxes[box-1].Must }

// ends is whether a box is its paragraph's last.
func (x sheet) ends(box int) bool { return x.boxes[box].Must || box == len(x.boxes)-1 }

// indent is that of a line that begins with the box first.
func (x sheet) indent(first int) int {
	if x.begins(first) {
		return x.how.First
	}
	return x.how.Rest
}

// room is that of a line that begins with the box first.
func (x sheet) room(first int) int { return x.how.Width - x.indent(first) }

// hyphen is how many cells come to a line that ends with the box last.
func (x sheet) hyphen(last int) int {
	if x.ends(last) {
		return 0
	}
	return x.boxes[last].Hyphen
}

// fitting goes over the lines that begin with the box first and fit: the last box of each, and its size. The shorter ones
// come first; first may be the number behind the last box, where no line begins.
func (x sheet) fitting(first int) iter.Seq2[int, int] {
	return func(yield func(int, int) bool) {
		room, ahead := x.room(first), 0
		for last := first; last < len(x.boxes); last++ {
			box := x.boxes[last]
			size := ahead + box.Width
			// But for the hyphen, a longer line is never of less size: a hyphen alone does not say that no longer one fits.
			if last > first && size > room {
				return
			}
			size += x.hyphen(last)
			fits := size <= room || last == first
			if fits && !yield(last, size) || x.ends(last) {
				return
			}
			ahead += box.Width + box.Blank
		}
	}
}

// cost is that of one line.
func (x sheet) cost(first, last, size int) int64 {
	free := int64(x.room(first) - size)
	switch {
	case free < 0:
		return over * free * free
	case x.ends(last):
		return 0
	}
	return free * free
}

// greedy is the last box of each line, if each has as many as fit.
func (x sheet) greedy() []int {
	var ends []int
	for first := 0; first < len(x.boxes); {
		end := first
		for last := range x.fitting(first) {
			end = last
		}
		ends = append(ends, end)
		first = end + 1
	}
	return ends
}

// way is how the boxes from one on are broken: what that costs, how many lines there are, the last box of the first one.
type way struct {
	cost  int64
	lines int
	end   int
}

// even is the last box of each line, if the cost is least. The best way for all boxes has the best one for those behind its
// first line: these are found from the last box on.
func (x sheet) even() []int {
	best := make([]way, len(x.boxes)+1)
	for first := len(x.boxes) - 1; first >= 0; first-- {
		best[first] = x.best(first, best)
	}
	var ends []int
	for first := 0; first < len(x.boxes); first = best[first].end + 1 {
		ends = append(ends, best[first].end)
	}
	return ends
}

// best is the best way for the boxes from first on, where those for the boxes behind it are known.
func (x sheet) best(first int, known []way) way {
	least := way{cost: math.MaxInt64}
	for last, size := range x.fitting(first) {
		next := known[last+1]
		one := way{x.cost(first, last, size) + next.cost, 1 + next.lines, last}
		// Of ways that are alike the one that comes later has more boxes in its first line.
		if one.cost < least.cost || one.cost == least.cost && one.lines <= least.lines {
			least = one
		}
	}
	return least
}
