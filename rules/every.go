package rules

import (
	"slices"

	"kerf/api"
	"kerf/pattern"
)

// mostClasses is the number of classes that a good pattern may have.
const mostClasses = 1<<31 - 1

// deciders are the numbers that Decide tells of the places 0 to len(c); none of an empty c.
func deciders(rs api.RuleSet, c []int) []int {
	if len(c) == 0 {
		return nil
	}
	numbers := slices.Repeat([]int{none}, len(c)+1)
	open, all := len(c)-1, anything(c)
search:
	for n, r := range rs.Rules {
		for _, at := range places(r, c, all) {
			if open == 0 {
				break search
			}
			if at > 0 && at < len(c) && numbers[at] == none {
				numbers[at] = n
				open--
			}
		}
	}
	return numbers
}

// places are those at which r applies, rising. All of them are found by one way through c, not by one for
// each, which would cost the square of its length: all matches every part of c.
func places(r api.Rule, c []int, all api.Pattern) []int {
	left, right := r.Left, r.Right
	if !r.Start {
		left = then(all, left)
	}
	if !r.End {
		right = then(right, all)
	}
	if !good(left) || !good(right) {
		return oneByOne(r, c)
	}
	behind := pattern.Starts(right, c)
	var both []int
	for _, at := range pattern.Ends(left, c) {
		if _, in := slices.BinarySearch(behind, at); in {
			both = append(both, at)
		}
	}
	return both
}

// oneByOne is places, where all laid beside a pattern has too many nodes, or c has a class that no good
// pattern can name.
func oneByOne(r api.Rule, c []int) []int {
	if !good(r.Left) || !good(r.Right) {
		return nil
	}
	var found []int
	for at := range len(c) + 1 {
		if Applies(r, c, at) {
			found = append(found, at)
		}
	}
	return found
}

// anything is the pattern that matches all lists of c's classes.
func anything(c []int) api.Pattern {
	classes := slices.Clone(c)
	slices.Sort(classes)
	set := api.Pattern{Op: api.PatSet, Classes: slices.Compact(classes)}
	return api.Pattern{Op: api.PatMany, Kids: []api.Pattern{set}}
}

func then(first, second api.Pattern) api.Pattern {
	return api.Pattern{Op: api.PatThen, Kids: []api.Pattern{first, second}}
}

func good(p api.Pattern) bool {
	return pattern.Check(p, mostClasses) == api.OK
}
