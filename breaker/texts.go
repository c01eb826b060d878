package breaker

import (
	"iter"
	"slices"
)

// Bounds: P9.3.
func (b *Breaker) Bounds(s string) []int {
	if b == nil || s == "" {
		return nil
	}
	edges, classes := b.read(s)
	last := len(edges) - 1
	var bounds []int
	for k, n := range b.deciders(classes) {
		if k == 0 || k == last || b.says(n) {
			bounds = append(bounds, edges[k])
		}
	}
	return bounds
}

// read is the edges of s, and the classes of its runes.
func (b *Breaker) read(s string) (edges, classes []int) {
	for at, class := range b.db.Each(s) {
		edges, classes = append(edges, at), append(classes, class)
	}
	return append(edges, len(s)), classes
}

// says is what the rule number n says, or the rest, where there is none.
func (b *Breaker) says(n int) bool {
	if n == none {
		return b.rules.Rest
	}
	return b.rules.Rules[n].Break
}

// Each: P9.4.
func (b *Breaker) Each(s string) iter.Seq2[int, int] {
	bounds := b.Bounds(s)
	return func(yield func(int, int) bool) {
		for i := 1; i < len(bounds); i++ {
			if !yield(bounds[i-1], bounds[i]) {
				return
			}
		}
	}
}

// Back: P9.4.
func (b *Breaker) Back(s string) iter.Seq2[int, int] {
	bounds := b.Bounds(s)
	return func(yield func(int, int) bool) {
		for i := len(bounds) - 1; i > 0; i-- {
			if !yield(bounds[i-1], bounds[i]) {
				return
			}
		}
	}
}

// Count: P9.4.
func (b *Breaker) Count(s string) int {
	count := 0
	for range b.Each(s) {
		count++
	}
	return count
}

// Is: P9.5.
func (b *Breaker) Is(s string, at int) bool {
	_, is := slices.BinarySearch(b.Bounds(s), at)
	return is
}

// Next: P9.5.
func (b *Breaker) Next(s string, at int) int {
	if b == nil {
		return 0
	}
	for _, bound := range b.Bounds(s) {
		if bound > at {
			return bound
		}
	}
	return len(s)
}

// Prev: P9.5.
func (b *Breaker) Prev(s string, at int) int {
	for _, bound := range slices.Backward(b.Bounds(s)) {
		if bound < at {
			return bound
		}
	}
	return 0
}

// Around: P9.5.
func (b *Breaker) Around(s string, at int) (int, int) {
	for from, to := range b.Each(s) {
		if from <= at && at < to {
			return from, to
		}
	}
	return 0, 0
}

// Rule: P9.6.
func (b *Breaker) Rule(s string, at int) int {
	if b == nil {
		return none
	}
	edges, classes := b.read(s)
	k, is := slices.BinarySearch(edges, at)
	if !is {
		return none
	}
	return b.deciders(classes)[k]
}
