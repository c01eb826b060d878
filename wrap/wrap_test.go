package wrap_test

import (
	"math"
	"math/rand"
	"slices"
	"testing"

	"kerf/api"
	"kerf/wrap"
)

// numbers are the edges of what may be a number of cells, and whether each is.
var numbers = []struct {
	n    int
	good bool
}{{math.MinInt, false}, {math.MinInt + 1, false}, {-1, false}, {0, true}, {1, true}, {api.MaxCells, true}, {api.MaxCells + 1, false}, {math.MaxInt, false}}

// checked is that Check tells this, and Lines and Cost go by it.
func checked(t *testing.T, l []api.Box, w api.Wrap, want api.Errno, wantAt int) {
	t.Helper()
	if e, at := wrap.Check(l, w); e != want || at != wantAt {
		t.Errorf("%d boxes, %v: %d, %d; want %d, %d", len(l), w, e, at, want, wantAt)
	}
	ends, e := wrap.Lines(l, w)
	if e != want || e != api.OK && len(ends) != 0 {
		t.Errorf("%d boxes, %v: Lines %v, %d; want %d", len(l), w, ends, e, want)
	}
	for _, ends := range [][]int{ends, nil, {len(l) - 1}, {0}} {
		if cost, ok := wrap.Cost(l, w, ends); want != api.OK && (cost != 0 || ok) {
			t.Errorf("%d boxes, %v: Cost %d, %v", len(l), w, cost, ok)
		}
	}
}

// TestP16_1Wrap has every edge of a Wrap.
func TestP16_1Wrap(t *testing.T) {
	for _, width := range numbers {
		for _, first := range numbers {
			for _, rest := range numbers {
				for _, how := range []int{math.MinInt, -1, api.WrapGreedy, api.WrapEven, 2, math.MaxInt} {
					good := width.good && width.n != 0 && first.good && rest.good && (how == 0 || how == 1)
					want := api.ErrWrap
					if good {
						want = api.OK
					}
					w := api.Wrap{Width: width.n, First: first.n, Rest: rest.n, How: how}
					checked(t, nil, w, want, 0)
					checked(t, []api.Box{{Width: 2, Blank: 1, Must: true}, {Width: 1}}, w, want, 0)
				}
			}
		}
	}
	if api.WrapGreedy != 0 || api.WrapEven != 1 {
		t.Errorf("%d, %d", api.WrapGreedy, api.WrapEven)
	}
}

// TestP16_1Box has every edge of a box, at the first place, in the middle and at the last.
func TestP16_1Box(t *testing.T) {
	for _, width := range numbers {
		for _, blank := range numbers {
			for _, hyphen := range numbers {
				box := api.Box{Width: width.n, Blank: blank.n, Hyphen: hyphen.n, Must: width.n > blank.n}
				for at := range 4 {
					l := []api.Box{{Width: 1}, {Must: true}, {}, {Width: 3, Hyphen: 1}}
					l[at] = box
					want, wantAt := api.OK, 0
					if !width.good || !blank.good || !hyphen.good {
						want, wantAt = api.ErrBox, at
					}
					checked(t, l, api.Wrap{Width: 5}, want, wantAt)
					checked(t, l, api.Wrap{Width: 5, How: api.WrapEven}, want, wantAt)
				}
			}
		}
	}
}

// TestP16_1First is which error comes first, and of which box.
func TestP16_1First(t *testing.T) {
	good, bad := api.Wrap{Width: 1}, api.Wrap{Width: 1, Rest: -1}
	most := make([]api.Box, api.MaxBoxes)
	checked(t, most, good, api.OK, 0)
	checked(t, most, bad, api.ErrWrap, 0)
	many := make([]api.Box, api.MaxBoxes+1)
	checked(t, many, good, api.ErrMany, 0)
	many[0].Width = -1
	many[7].Blank = -1
	checked(t, many, good, api.ErrMany, 0)
	checked(t, many, bad, api.ErrWrap, 0)
	checked(t, many[1:], good, api.ErrBox, 6)
	checked(t, many[1:], bad, api.ErrWrap, 0)
	most[api.MaxBoxes-1].Hyphen = api.MaxCells + 1
	checked(t, most, good, api.ErrBox, api.MaxBoxes-1)
	most[3].Blank = math.MinInt
	most[5].Width = math.MaxInt
	checked(t, most, good, api.ErrBox, 3)
}

// held is that Lines of both ways are those that the chapter tells, and Cost of them, too.
func held(t *testing.T, x sheet) {
	t.Helper()
	for how, want := range [][]int{x.greedy(), x.even()} {
		w := by(how, x.w)
		got, e := wrap.Lines(x.l, w)
		if e != api.OK || !slices.Equal(got, want) {
			t.Fatalf("%v, %v: %v, %d; want %v", x.l, w, got, e, want)
		}
		if cost, ok := wrap.Cost(x.l, w, got); !ok || cost != x.cost(want) {
			t.Fatalf("%v, %v: %v costs %d, %v; want %d", x.l, w, got, cost, ok, x.cost(want))
		}
	}
}

// TestP16_2Few has all rows of up to three boxes of several kinds, in rooms of several kinds.
func TestP16_2Few(t *testing.T) {
	kinds := []api.Box{{}, {Width: 1}, {Width: 2, Blank: 1}, {Width: 1, Hyphen: 1}, {Hyphen: 3}, {Width: 6}, {Width: 1, Must: true}, {Blank: 2, Hyphen: 1, Must: true}}
	wraps := []api.Wrap{{Width: 1}, {Width: 3}, {Width: 5}, {Width: 4, First: 2}, {Width: 4, Rest: 3}, {Width: 2, First: 5}, {Width: 2, Rest: 4}}
	for _, w := range wraps {
		held(t, sheet{nil, w})
		for _, a := range kinds {
			held(t, sheet{[]api.Box{a}, w})
			for _, b := range kinds {
				held(t, sheet{[]api.Box{a, b}, w})
				for _, c := range kinds {
					held(t, sheet{[]api.Box{a, b, c}, w})
				}
			}
		}
	}
}

// TestP16_2All holds both ways against all ways to break up to ten boxes, and counts how often the ties decide.
func TestP16_2All(t *testing.T) {
	r := rand.New(rand.NewSource(162))
	fewer, longer, above, unlike := 0, 0, 0, 0
	for range 12000 {
		x := someSheet(r, 10)
		held(t, x)
		best := x.even()
		if !slices.Equal(best, x.greedy()) {
			unlike++
		}
		lines, ties := 0, 0
		for _, ends := range x.ways() {
			switch {
			case x.cost(ends) > x.cost(best):
			case len(ends) > len(best):
				lines = 1
			case !slices.Equal(ends, best):
				ties = 1
			}
		}
		fewer += lines
		longer += ties
		from := 0
		for _, end := range best {
			if x.size(from, end) > x.room(from) {
				above++
				break
			}
			from = end + 1
		}
	}
	if fewer < 300 || longer < 300 || above < 3000 || unlike < 300 {
		t.Errorf("%d, %d, %d, %d", fewer, longer, above, unlike)
	}
}

// TestP16_2Lines has what the issue of lines hangs on, one by one.
func TestP16_2Lines(t *testing.T) {
	w := func(width, first, rest int) api.Wrap { return api.Wrap{Width: width, First: first, Rest: rest} }
	b := func(width, blank, hyphen int) api.Box { return api.Box{Width: width, Blank: blank, Hyphen: hyphen} }
	must := func(box api.Box) api.Box {
		box.Must = true
		return box
	}
	for _, y := range []struct {
		name         string
		l            []api.Box
		w            api.Wrap
		greedy, even []int
	}{
		{"the first example", []api.Box{b(3, 1, 0), b(2, 1, 0), b(2, 1, 0), b(5, 0, 0)}, w(6, 0, 0), []int{1, 2, 3}, []int{0, 2, 3}},
		{"no boxes", nil, w(1, 0, 0), nil, nil},
		{"one box", []api.Box{b(9, 9, 9)}, w(1, 1, 1), []int{0}, []int{0}},
		{"no width", []api.Box{b(0, 0, 0), b(0, 0, 0), b(0, 0, 0)}, w(1, 1, 1), []int{2}, []int{2}},
		{"no width, no room", []api.Box{b(0, 0, 0), b(0, 0, 0), b(0, 0, 0)}, w(1, 2, 2), []int{0, 1, 2}, []int{0, 1, 2}},
		{"no room at first", []api.Box{b(0, 0, 0), b(0, 0, 0), b(0, 0, 0)}, w(1, 2, 1), []int{0, 2}, []int{0, 2}},
		{"no room at last", []api.Box{b(1, 0, 0), b(1, 0, 0), b(0, 0, 0)}, w(1, 0, 2), []int{0, 1, 2}, []int{0, 1, 2}},
		{"wide at first", []api.Box{b(9, 0, 0), b(0, 0, 0), b(2, 0, 0)}, w(5, 0, 0), []int{0, 2}, []int{0, 2}},
		{"wide in the middle", []api.Box{b(2, 0, 0), b(9, 0, 0), b(2, 0, 0)}, w(5, 0, 0), []int{0, 1, 2}, []int{0, 1, 2}},
		{"wide at last", []api.Box{b(2, 0, 0), b(2, 0, 0), b(9, 0, 0)}, w(5, 0, 0), []int{1, 2}, []int{1, 2}},
		{"just so wide", []api.Box{b(2, 1, 0), b(2, 7, 0), b(5, 0, 9)}, w(5, 0, 0), []int{1, 2}, []int{1, 2}},
		{"a hyphen too much", []api.Box{b(2, 0, 0), b(2, 0, 2), b(5, 0, 0)}, w(5, 0, 0), []int{0, 1, 2}, []int{0, 1, 2}},
		{"a hyphen that fits", []api.Box{b(2, 0, 0), b(2, 0, 1), b(5, 0, 0)}, w(5, 0, 0), []int{1, 2}, []int{1, 2}},
		{"a hyphen that a longer line leaves out", []api.Box{b(1, 0, 0), b(1, 0, 9), b(1, 0, 0), b(5, 0, 0)}, w(5, 0, 0), []int{2, 3}, []int{2, 3}},
		{"the last hyphen", []api.Box{b(2, 0, 0), must(b(3, 0, 9)), b(1, 0, 0), b(4, 0, 9)}, w(5, 0, 0), []int{1, 3}, []int{1, 3}},
		{"blanks behind a line", []api.Box{b(2, 1, 0), b(2, 99, 0), b(1, 99, 0)}, w(5, 0, 0), []int{1, 2}, []int{1, 2}},
		{"must at the first", []api.Box{must(b(1, 0, 0)), b(1, 0, 0), b(1, 0, 0)}, w(5, 0, 0), []int{0, 2}, []int{0, 2}},
		{"must at the last", []api.Box{b(1, 0, 0), b(1, 0, 0), must(b(1, 0, 0))}, w(5, 0, 0), []int{2}, []int{2}},
		{"must at each", []api.Box{must(b(0, 0, 0)), must(b(0, 0, 0)), must(b(0, 0, 0))}, w(5, 0, 0), []int{0, 1, 2}, []int{0, 1, 2}},
		{"indents of paragraphs", []api.Box{b(1, 0, 0), b(1, 0, 0), b(1, 0, 0), must(b(1, 0, 0)), b(1, 0, 0), b(1, 0, 0), b(1, 0, 0)}, w(3, 2, 1), []int{0, 2, 3, 4, 6}, []int{0, 2, 3, 4, 6}},
		{"indents, the first less", []api.Box{b(1, 0, 0), b(1, 0, 0), b(1, 0, 0), b(1, 0, 0), must(b(1, 0, 0)), b(1, 0, 0), b(1, 0, 0), b(1, 0, 0)}, w(3, 0, 2), []int{2, 3, 4, 7}, []int{2, 3, 4, 7}},
		{"fewer lines of the same cost", []api.Box{b(4, 0, 0), b(0, 0, 0)}, w(4, 0, 0), []int{1}, []int{1}},
		{"more boxes ahead at the same cost", []api.Box{b(2, 0, 0), b(0, 0, 0), b(2, 0, 0), b(0, 0, 0), b(2, 0, 0)}, w(2, 0, 0), []int{1, 3, 4}, []int{1, 3, 4}},
		{"the second line of the same cost", []api.Box{b(2, 0, 0), b(2, 0, 0), b(0, 0, 0), b(2, 0, 0)}, w(2, 0, 0), []int{0, 2, 3}, []int{0, 2, 3}},
		{"fewer lines ahead of more boxes", []api.Box{b(2, 1, 3), b(0, 1, 3), b(1, 1, 4), b(1, 0, 1), b(3, 0, 1), b(3, 1, 0)}, w(6, 0, 0), []int{1, 3, 5}, []int{0, 3, 5}},
		{"fewer lines ahead of more boxes, with indents", []api.Box{b(1, 1, 2), b(3, 0, 0), b(3, 0, 1), b(0, 1, 0), b(4, 0, 0), b(3, 0, 4)}, w(8, 1, 1), []int{1, 3, 5}, []int{0, 3, 5}},
		{"more lines, less cost", []api.Box{b(1, 0, 4), b(1, 0, 0), b(9, 0, 0)}, w(5, 0, 4), []int{1, 2}, []int{0, 1, 2}},
	} {
		for how, want := range [][]int{y.greedy, y.even} {
			if got, e := wrap.Lines(y.l, by(how, y.w)); e != api.OK || !slices.Equal(got, want) {
				t.Errorf("%s, %d: %v, %d; want %v", y.name, how, got, e, want)
			}
		}
		held(t, sheet{y.l, y.w})
	}
}

// TestP16_2Long holds the ways of many boxes against what they cost at least, reckoned the other way round.
func TestP16_2Long(t *testing.T) {
	r := rand.New(rand.NewSource(1622))
	for range 60 {
		x := someSheet(r, 300)
		x.w.Width += r.Intn(30)
		cost, lines := x.least()
		ends, e := wrap.Lines(x.l, by(api.WrapEven, x.w))
		if got, ok := wrap.Cost(x.l, x.w, ends); e != api.OK || !ok || got != cost || len(ends) != lines {
			t.Fatalf("%v, %v: %d lines, %d, %v; want %d, %d", x.l, x.w, len(ends), got, ok, lines, cost)
		}
		if got, e := wrap.Lines(x.l, x.w); e != api.OK || !slices.Equal(got, x.greedy()) {
			t.Fatalf("%v, %v: %v, %d; want %v", x.l, x.w, got, e, x.greedy())
		}
	}
}

// sheetOf is as many boxes of that kind as may be, the last one of another kind.
func sheetOf(box, last api.Box, w api.Wrap) sheet {
	l := slices.Repeat([]api.Box{box}, api.MaxBoxes)
	l[api.MaxBoxes-1] = last
	return sheet{l, w}
}

// TestP16_2Most has as many boxes as may be, as wide as may be, and such that each line is tried to the end of the paragraph.
func TestP16_2Most(t *testing.T) {
	const n, most = api.MaxBoxes, api.MaxCells
	each := make([]int, n)
	for i := range each {
		each[i] = i
	}
	wide := api.Box{Width: most, Blank: most, Hyphen: most}
	over := int64(2*most - 1 + most) // the size less the room
	for _, y := range []struct {
		x    sheet
		ends []int
		cost int64
	}{
		{sheetOf(api.Box{}, api.Box{}, api.Wrap{Width: 1}), []int{n - 1}, 0},
		{sheetOf(api.Box{Hyphen: 2}, api.Box{}, api.Wrap{Width: 1}), []int{n - 1}, 0},
		{sheetOf(api.Box{Hyphen: 2}, api.Box{Width: 2}, api.Wrap{Width: 1}), each, 10*(n-1) + 10},
		{sheetOf(api.Box{Must: true}, api.Box{}, api.Wrap{Width: 1}), each, 0},
		{sheetOf(wide, wide, api.Wrap{Width: 1, First: most, Rest: most}), each, 10*(n-1)*over*over + 10*(over-most)*(over-most)},
		{sheetOf(api.Box{}, api.Box{Width: most}, api.Wrap{Width: most}), []int{n - 1}, 0},
		{sheetOf(api.Box{Blank: most}, api.Box{}, api.Wrap{Width: 1}), each, n - 1},
	} {
		for how := range 2 {
			w := by(how, y.x.w)
			ends, e := wrap.Lines(y.x.l, w)
			if e != api.OK || !slices.Equal(ends, y.ends) {
				t.Errorf("%v, %v: %d lines, %d; want %d", y.x.l[0], w, len(ends), e, len(y.ends))
			}
			if cost, ok := wrap.Cost(y.x.l, w, ends); !ok || cost != y.cost {
				t.Errorf("%v, %v: %d, %v; want %d", y.x.l[0], w, cost, ok, y.cost)
			}
		}
	}
}

// priced is that Cost tells what the chapter does.
func priced(t *testing.T, x sheet, ends []int) bool {
	t.Helper()
	want, good := int64(0), x.isList(ends)
	if good {
		want = x.cost(ends)
	}
	if got, ok := wrap.Cost(x.l, x.w, ends); got != want || ok != good {
		t.Fatalf("%v, %v, %v: %d, %v; want %d, %v", x.l, x.w, ends, got, ok, want, good)
	}
	return good
}

// TestP16_3All has all lists of numbers of up to seven boxes that rise, and lists that do not, or of which numbers are no box's.
func TestP16_3All(t *testing.T) {
	r := rand.New(rand.NewSource(163))
	good, bad := 0, 0
	count := func(x sheet, ends []int) {
		if priced(t, x, ends) {
			good++
		} else {
			bad++
		}
	}
	for range 500 {
		x := someSheet(r, 7)
		x.w.How = r.Intn(2)
		for mask := range 1 << (len(x.l) + 2) {
			var ends []int
			for j := range len(x.l) + 2 {
				if mask>>j&1 == 1 {
					ends = append(ends, j-1)
				}
			}
			count(x, ends)
		}
		for range 50 {
			ends := slices.Clone(x.even())
			for range 1 + r.Intn(2) {
				ends = slices.Insert(ends, r.Intn(len(ends)+1), r.Intn(len(x.l)+4)-2)
			}
			count(x, ends)
		}
	}
	if good < 1000 || bad < 10000 {
		t.Errorf("%d, %d", good, bad)
	}
}

// TestP16_3Cost has lists that are none, and what single lines cost.
func TestP16_3Cost(t *testing.T) {
	three := []api.Box{{Width: 1, Blank: 1}, {Width: 1, Must: true}, {Width: 4}}
	for _, y := range []struct {
		l    []api.Box
		w    api.Wrap
		ends []int
		cost int64
		ok   bool
	}{
		{nil, api.Wrap{Width: 1}, nil, 0, true},
		{nil, api.Wrap{Width: 1}, []int{}, 0, true},
		{[]api.Box{}, api.Wrap{Width: 1, How: 1}, nil, 0, true},
		{nil, api.Wrap{Width: 1}, []int{0}, 0, false},
		{nil, api.Wrap{Width: 1}, []int{-1}, 0, false},
		{nil, api.Wrap{}, nil, 0, false},
		{nil, api.Wrap{Width: 1, How: 2}, nil, 0, false},
		{[]api.Box{{Width: -1}}, api.Wrap{Width: 1}, []int{0}, 0, false},
		{three, api.Wrap{Width: 6}, []int{1, 2}, 0, true},
		{three, api.Wrap{Width: 6, How: 1}, []int{1, 2}, 0, true},
		{three, api.Wrap{Width: 6}, []int{0, 1, 2}, 25, true},
		{three, api.Wrap{Width: 6, First: 2}, []int{0, 1, 2}, 9, true},
		{three, api.Wrap{Width: 6, Rest: 2}, []int{0, 1, 2}, 25, true},
		{three, api.Wrap{Width: 3}, []int{0, 1, 2}, 14, true},
		{three, api.Wrap{Width: 2}, []int{0, 1, 2}, 41, true},
		{three, api.Wrap{Width: 2}, []int{1, 2}, 0, false},
		{three, api.Wrap{Width: 6}, nil, 0, false},
		{three, api.Wrap{Width: 6}, []int{1}, 0, false},
		{three, api.Wrap{Width: 6}, []int{2}, 0, false},
		{three, api.Wrap{Width: 6}, []int{0, 2}, 0, false},
		{three, api.Wrap{Width: 6}, []int{1, 1, 2}, 0, false},
		{three, api.Wrap{Width: 6}, []int{1, 2, 2}, 0, false},
		{three, api.Wrap{Width: 6}, []int{1, 0, 2}, 0, false},
		{three, api.Wrap{Width: 6}, []int{2, 1}, 0, false},
		{three, api.Wrap{Width: 6}, []int{1, 2, 1}, 0, false},
		{three, api.Wrap{Width: 6}, []int{-1, 1, 2}, 0, false},
		{three, api.Wrap{Width: 6}, []int{1, 2, 3}, 0, false},
		{three, api.Wrap{Width: 6}, []int{1, 3}, 0, false},
		{three, api.Wrap{Width: 6}, []int{math.MinInt, 1, 2}, 0, false},
		{three, api.Wrap{Width: 6}, []int{1, 2, math.MaxInt}, 0, false},
		// a box above its room costs ten times as much, at the end of a paragraph, too
		{[]api.Box{{Width: 9}, {Width: 1}}, api.Wrap{Width: 5}, []int{0, 1}, 160, true},
		{[]api.Box{{Width: 9}}, api.Wrap{Width: 5}, []int{0}, 160, true},
		{[]api.Box{{Width: 9, Must: true}, {Width: 1}}, api.Wrap{Width: 5}, []int{0, 1}, 160, true},
		{[]api.Box{{}}, api.Wrap{Width: 5, First: 8}, []int{0}, 90, true},
		{[]api.Box{{}, {}}, api.Wrap{Width: 5, First: 5, Rest: 7}, []int{0, 1}, 40, true},
		// hyphens, but those at the end of a paragraph
		{[]api.Box{{Width: 4, Hyphen: 1}, {Width: 1, Hyphen: 9}}, api.Wrap{Width: 5}, []int{0, 1}, 0, true},
		{[]api.Box{{Width: 4, Hyphen: 3}, {Width: 1, Hyphen: 9}}, api.Wrap{Width: 5}, []int{0, 1}, 40, true},
		{[]api.Box{{Width: 4, Hyphen: 3}, {Width: 1, Hyphen: 9}}, api.Wrap{Width: 5}, []int{1}, 0, true},
		{[]api.Box{{Width: 2}, {Width: 2, Hyphen: 2}, {Width: 1}}, api.Wrap{Width: 5}, []int{1, 2}, 0, false},
		{[]api.Box{{Width: 1, Hyphen: 3, Must: true}, {Width: 1, Hyphen: 3, Must: true}}, api.Wrap{Width: 1}, []int{0, 1}, 0, true},
		// blanks behind a line's last box
		{[]api.Box{{Width: 2, Blank: 50}, {Width: 5, Blank: 50}}, api.Wrap{Width: 5}, []int{0, 1}, 9, true},
	} {
		if cost, ok := wrap.Cost(y.l, y.w, y.ends); cost != y.cost || ok != y.ok {
			t.Errorf("%v, %v, %v: %d, %v; want %d, %v", y.l, y.w, y.ends, cost, ok, y.cost, y.ok)
		}
	}
}

// TestP16_2New is that what is handed in stays as it is, its spare room too, and that what is answered is new.
func TestP16_2New(t *testing.T) {
	r := rand.New(rand.NewSource(1623))
	for range 500 {
		x := someSheet(r, 9)
		room := append(slices.Clone(x.l), api.Box{Width: 77}, api.Box{Blank: 78})
		was := slices.Clone(room)
		l := room[:len(x.l)]
		for how := range 2 {
			w := by(how, x.w)
			ends, _ := wrap.Lines(l, w)
			asked := append(slices.Clone(ends), 55, 56)
			cost, ok := wrap.Cost(l, w, asked[:len(ends)])
			for i := range ends {
				ends[i] = -9
			}
			_ = append(ends, -9)
			again, _ := wrap.Lines(l, w)
			if !slices.Equal(append(slices.Clone(again), 55, 56), asked) || !slices.Equal(room, was) {
				t.Fatalf("%v, %v: %v, %v, %v", x.l, w, again, asked, room)
			}
			if cost2, ok2 := wrap.Cost(l, w, again); cost2 != cost || ok2 != ok {
				t.Fatalf("%v, %v: %d, %v; %d, %v", x.l, w, cost, ok, cost2, ok2)
			}
		}
	}
}
