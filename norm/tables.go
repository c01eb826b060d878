package norm

import (
	"iter"
	"strings"

	"kerf/api"
)

// parts are the runes, at most three, into which a rune falls apart by one line of a table.
type parts struct {
	list [3]rune
	long int
}

// falls has what falls apart by a line of a table.
type falls map[rune]parts

// pair is two runes, one behind the other.
type pair struct{ a, b rune }

// pairs has what becomes of two runes that join by a line of a table.
type pairs map[pair]rune

// tables are what a form needs of those in api. They are read where a call first needs them, and not kept for the next.
type tables struct {
	form    int
	falls   falls
	orders  map[rune]int
	pairs   pairs        // none where the form does not join
	seconds map[rune]int // how many of the pairs have that rune for the second
}

// read reads the tables, if the call has not read them yet.
func (t *tables) read() {
	if t.falls != nil {
		return
	}
	t.falls, t.orders = readFalls(t.form), readOrders()
	if joins(t.form) {
		t.pairs, t.seconds = readPairs()
	}
}

// The sizes that maps are made with are guesses, so that they need not grow.
const (
	manyFalls  = 300
	manyOrders = 100
)

func readFalls(form int) falls {
	f := make(falls, manyFalls)
	for r, p := range fallsOf(api.NormApart) {
		f[r] = p
	}
	if alike(form) {
		for r, p := range fallsOf(api.NormAlso) {
			f[r] = p
		}
	}
	return f
}

func readOrders() map[rune]int {
	orders := make(map[rune]int, manyOrders)
	for first, rest := range linesOf(api.NormOrder) {
		last, order, _ := strings.Cut(rest, " ")
		for r := first; r <= rune(number(last, 16)); r++ {
			orders[r] = number(order, 10)
		}
	}
	return orders
}

// readPairs tells what joins, and how many of the pairs have a rune for the second.
func readPairs() (pairs, map[rune]int) {
	out := make(map[rune]int)
	for r := range linesOf(api.NormOut) {
		out[r]++
	}
	ps, seconds := make(pairs, manyFalls), make(map[rune]int)
	for r, p := range fallsOf(api.NormApart) {
		if p.long == 2 && out[r] == 0 {
			ps[pair{p.list[0], p.list[1]}] = r
			seconds[p.list[1]]++
		}
	}
	return ps, seconds
}

// fallsOf goes over the lines of a table that says into what runes fall apart.
func fallsOf(table string) iter.Seq2[rune, parts] {
	return func(yield func(rune, parts) bool) {
		for r, rest := range linesOf(table) {
			var p parts
			for field := range strings.SplitSeq(rest, " ") {
				p.list[p.long] = rune(number(field, 16))
				p.long++
			}
			if !yield(r, p) {
				return
			}
		}
	}
}

// linesOf goes over the lines of a table: the rune with which each begins, and what stands behind that.
func linesOf(table string) iter.Seq2[rune, string] {
	return func(yield func(rune, string) bool) {
		for line := range strings.Lines(table) {
			first, rest, _ := strings.Cut(strings.TrimSuffix(line, "\n"), " ")
			if !yield(rune(number(first, 16)), rest) {
				return
			}
		}
	}
}

// number is what digits of a base spell. The tables hold no others, and each call reads hundreds of numbers: so nothing is
// looked at but the digits.
func number(digits string, base int) int {
	n := 0
	for at := range len(digits) {
		if c := digits[at]; c <= '9' {
			n = n*base + int(c-'0')
		} else {
			n = n*base + int(c-'A') + 10
		}
	}
	return n
}
