package table_test

import (
	"bytes"
	"math"
	"math/rand"
	"slices"
	"testing"

	"kerf/api"
	"kerf/table"
)

func TestP3_3(t *testing.T) {
	for _, y := range []struct {
		l    []api.Ranged
		rest int
		want []api.Ranged
	}{
		{nil, 0, nil}, {nil, 9, nil},
		{ranged(0, 0x10ffff, 0), 0, nil}, {ranged(0, 0x10ffff, 1), 0, ranged(0, 0x10ffff, 1)}, // the rest has all numbers, or none
		{ranged(0, 9, 1, 10, 0x10ffff, 1), 0, ranged(0, 0x10ffff, 1)},
		{ranged(13, 15, 1, 10, 12, 1), 0, ranged(10, 15, 1)}, {ranged(13, 15, 2, 10, 12, 1), 0, ranged(10, 12, 1, 13, 15, 2)},
		{ranged(10, 12, 1, 14, 15, 1), 0, ranged(10, 12, 1, 14, 15, 1)}, {ranged(10, 12, 1, 13, 13, 0, 14, 15, 1), 0, ranged(10, 12, 1, 14, 15, 1)},
		{ranged(10, 12, 1, 13, 13, 2), 1, ranged(13, 13, 2)}, {ranged(10, 12, 0), 1, ranged(10, 12, 0)},
		{ranged(100, 200, 1, 201, 400, 1, 401, 511, 1, 512, 600, 1), 0, ranged(100, 600, 1)}, // over blocks
		{ranged(0xd7ff, 0xe000, 4), 0, ranged(0xd7ff, 0xe000, 4)},
	} {
		if got := built(t, y.l, y.rest).Ranges(); !slices.Equal(got, y.want) {
			t.Errorf("Build(%x, %d): Ranges: %x; want %x", y.l, y.rest, got, y.want)
		}
	}
}

func TestP3_4Blocks(t *testing.T) {
	var each []api.Ranged // one number of every block, at another place in each
	for n := range 128 {
		each = append(each, ranged(n*128+n, n*128+n, 1)...)
	}
	for _, y := range []struct {
		l    []api.Ranged
		want int
	}{
		{nil, 1}, {ranged(0, 0x10ffff, 1), 1}, {ranged(0, 0x10ffff, 0), 1}, {ranged(5, 5, 0), 1},
		{ranged(5, 5, 1), 2}, {ranged(5, 5, 1, 133, 133, 1), 2}, {ranged(5, 5, 1, 133, 133, 2), 3}, {ranged(5, 5, 1, 134, 134, 1), 3},
		{ranged(0, 127, 1), 2}, {ranged(0, 128, 1), 3}, {ranged(1, 128, 1), 3}, {ranged(127, 128, 1), 3}, {ranged(127, 256, 1), 4},
		{ranged(0x10ffff, 0x10ffff, 1), 2}, {ranged(0x10ff80, 0x10ffff, 1), 2}, {ranged(0x10ff7f, 0x10ffff, 1), 3},
		{ranged(0, 0xffff, 1, 0x10000, 0x10ffff, 2), 2}, {each, 129},
	} {
		if got := built(t, y.l, 0).Blocks(); got != y.want {
			t.Errorf("Build(%x): Blocks: %d; want %d", y.l, got, y.want)
		}
	}
}

func TestP3_5(t *testing.T) {
	rnd := rand.New(rand.NewSource(5))
	for i, l := range lists() {
		x := built(t, l, i%5)
		p, _, _ := plainOf(l, i%5)
		to := make([]int, []int{5, 256, 300}[rnd.Intn(3)])
		for c := range to {
			to[c] = []int{0, 1, 255, rnd.Intn(256)}[rnd.Intn(4)]
		}
		was := x.Bytes()
		q, want := p.mapped(to)
		y, e := x.Map(to)
		if e != want || !bytes.Equal(x.Bytes(), was) {
			t.Fatalf("%x: Map(%d): %d; want %d", l, to, e, want)
		}
		if e == api.OK {
			same(t, "Map", y, q)
		}
	}
}

func TestP3_5Edges(t *testing.T) {
	x := built(t, ranged(0x61, 0x7a, 1, 0x300, 0x36f, 2), 0)
	full := built(t, ranged(0, 0xffff, 1, 0x10000, 0x10ffff, 2), 7)
	long := make([]int, 400)
	bad := make([]int, 400)
	bad[399] = 256
	for _, y := range []struct {
		x  *table.Table
		to []int
		e  api.Errno
	}{
		{x, []int{3, 4, 4}, api.OK}, {x, []int{3, 4, 4, 5}, api.OK}, {x, []int{0, 0, 255}, api.OK}, {x, long, api.OK},
		{x, nil, api.ErrRange}, {x, []int{3}, api.ErrRange}, {x, []int{3, 4}, api.ErrRange}, // too short
		{x, []int{3, 4, 256}, api.ErrRange}, {x, []int{-1, 4, 4}, api.ErrRange}, {x, []int{3, 4, 4, -1}, api.ErrRange}, {x, []int{3, 4, 4, 256}, api.ErrRange}, // a class that is none, though no number has it
		{x, bad, api.ErrRange}, {x, []int{3, math.MaxInt, 4}, api.ErrRange}, {x, []int{math.MinInt, 4, 4}, api.ErrRange}, {x, []int{1 << 32, 4, 4}, api.ErrRange},
		{full, []int{0, 1, 2}, api.ErrRange}, {full, []int{0, 1, 2, 3, 4, 5, 6}, api.ErrRange}, {full, []int{0, 1, 2, 3, 4, 5, 6, 9}, api.OK}, // the rest has a class, though no number has it
		{full, []int{256, 1, 2, 3, 4, 5, 6, 9}, api.ErrRange},
		{built(t, nil, 2), []int{0, 1}, api.ErrRange}, {built(t, nil, 2), []int{0, 1, 9}, api.OK}, // classes that no number has may be missing
		{built(t, ranged(1, 1, 255), 0), make([]int, 255), api.ErrRange}, {built(t, ranged(1, 1, 255), 0), make([]int, 256), api.OK},
		{built(t, ranged(0x10ffff, 0x10ffff, 3), 0), make([]int, 3), api.ErrRange},
	} {
		z, e := y.x.Map(y.to)
		if e != y.e || (z == nil) != (e != api.OK) {
			t.Errorf("Map(%d): %d; want %d", y.to, e, y.e)
		}
	}
	y, _ := x.Map([]int{3, 4, 4})
	if y.Rest() != 3 || y.Get(-1) != 3 || !slices.Equal(y.Ranges(), ranged(0x61, 0x7a, 4, 0x300, 0x36f, 4)) {
		t.Errorf("Map: %d, %x", y.Rest(), y.Ranges())
	}
	y, _ = x.Map([]int{5, 6, 5}) // what becomes the rest's is of no range any more, and blocks become alike
	if !slices.Equal(y.Ranges(), ranged(0x61, 0x7a, 6)) || y.Blocks() != 2 || y.Count(5) != numbers-26 {
		t.Errorf("Map: %x, %d blocks", y.Ranges(), y.Blocks())
	}
	y, _ = full.Map([]int{0, 1, 2, 0, 0, 0, 0, 9})
	if y.Rest() != 9 || y.Get(0x110000) != 9 || y.Count(9) != 0 {
		t.Errorf("Map: the rest: %d", y.Rest())
	}
}

func TestP3_6(t *testing.T) {
	all := lists()
	rnd := rand.New(rand.NewSource(6))
	for range 40 {
		l, m := all[rnd.Intn(len(all))], all[rnd.Intn(len(all))]
		r, s := rnd.Intn(5), rnd.Intn(5)
		p, _, _ := plainOf(l, r)
		q, _, _ := plainOf(m, s)
		x, two, e := table.Pair(built(t, l, r), built(t, m, s))
		want, pairs, f := pairOf(p, q)
		if e != f || !slices.Equal(two, pairs) {
			t.Fatalf("Pair of %x, %d and %x, %d: %d, %d; want %d, %d", l, r, m, s, two, e, pairs, f)
		}
		same(t, "Pair", x, want)
	}
}

// steps are ranges that give the numbers from 0 on the classes 0 to last, one each; the last of them has all behind it.
func steps(last int) []api.Ranged {
	var l []api.Ranged
	for c := range last {
		l = append(l, ranged(c, c, c)...)
	}
	return append(l, ranged(last, 0x10ffff, last)...)
}

func TestP3_6Many(t *testing.T) {
	none := built(t, nil, 0)
	for _, y := range []struct {
		name string
		a, b *table.Table
		many int // pairs, or 0 for too many
		rest int
	}{
		{"256", built(t, steps(255), 3), none, 256, 3},
		{"257 by a number", built(t, steps(255), 3), built(t, ranged(300, 300, 1), 0), 0, 0},
		{"257 by the last number", built(t, steps(255), 3), built(t, ranged(0x10ffff, 0x10ffff, 1), 0), 0, 0},
		{"257 by the rest", built(t, steps(255), 3), built(t, ranged(0, 0x10ffff, 0), 1), 0, 0},
		{"256 with the rest", built(t, steps(254), 3), built(t, ranged(0, 0x10ffff, 0), 1), 256, 255},
		{"256 the other way", none, built(t, steps(255), 255), 256, 255},
		{"thousands", built(t, steps(255), 0), built(t, append(ranged(0, 999, 1), ranged(1000, 1000, 2)...), 0), 0, 0},
		{"a square", built(t, squares(1), 0), built(t, squares(16), 0), 256, 0},
		{"a square and one more", built(t, squares(1), 0), built(t, append(squares(16), ranged(0x10ffff, 0x10ffff, 17)...), 0), 0, 0},
	} {
		x, two, e := table.Pair(y.a, y.b)
		if y.many == 0 {
			if x != nil || len(two) > 0 || e != api.ErrMany {
				t.Errorf("%s: %d pairs, %d", y.name, len(two), e)
			}
			continue
		}
		if x == nil || len(two) != y.many || e != api.OK || x.Rest() != y.rest || x.Get(-1) != y.rest {
			t.Errorf("%s: %d pairs, %d", y.name, len(two), e)
		}
	}
}

// squares are ranges that give number n, up to 255, the class n / step % 16.
func squares(step int) []api.Ranged {
	var l []api.Ranged
	for n := range 256 {
		l = append(l, ranged(n, n, n/step%16)...)
	}
	return l
}

func TestP3_6Rest(t *testing.T) {
	// The rests' pair is counted where a number first has it, and last where none has it.
	a, b := built(t, ranged(0, 9, 1), 5), built(t, ranged(5, 9, 2, 10, 0x10ffff, 3), 6)
	x, two, e := table.Pair(a, b)
	if e != api.OK || !slices.Equal(two, []api.Two{{A: 1, B: 6}, {A: 1, B: 2}, {A: 5, B: 3}, {A: 5, B: 6}}) || x.Rest() != 3 || x.Count(3) != 0 || x.Get(0x110000) != 3 {
		t.Errorf("a rest that no number has: %d, %d", two, e)
	}
	if !slices.Equal(x.Ranges(), ranged(0, 4, 0, 5, 9, 1, 10, 0x10ffff, 2)) {
		t.Errorf("a rest that no number has: %x", x.Ranges())
	}
	a, b = built(t, ranged(0, 0, 1), 5), built(t, ranged(1, 1, 1), 6)
	x, two, _ = table.Pair(a, b)
	if !slices.Equal(two, []api.Two{{A: 1, B: 6}, {A: 5, B: 1}, {A: 5, B: 6}}) || x.Rest() != 2 || x.Get(0) != 0 || x.Get(1) != 1 || x.Get(2) != 2 {
		t.Errorf("a rest that numbers have: %d", two)
	}
	x, two, _ = table.Pair(a, a)
	if !slices.Equal(two, []api.Two{{A: 1, B: 1}, {A: 5, B: 5}}) || x.Rest() != 1 {
		t.Errorf("with itself: %d", two)
	}
}

func TestP3_6Equal(t *testing.T) {
	x := built(t, ranged(0x61, 0x7a, 1, 0x300, 0x36f, 2), 0)
	for _, y := range []struct {
		l    []api.Ranged
		rest int
		want bool
	}{
		{ranged(0x61, 0x7a, 1, 0x300, 0x36f, 2), 0, true}, {ranged(0x300, 0x36f, 2, 0x61, 0x7a, 1), 0, true}, {ranged(0x61, 0x61, 1, 0x62, 0x7a, 1, 0x300, 0x36f, 2), 0, true},
		{ranged(0, 0x60, 0, 0x61, 0x7a, 1, 0x300, 0x36f, 2), 0, true}, {ranged(0, 0x60, 0, 0x61, 0x7a, 1, 0x300, 0x36f, 2, 0x7b, 0x2ff, 0, 0x370, 0x10ffff, 0), 0, true},
		{ranged(0, 0x60, 0, 0x61, 0x7a, 1, 0x300, 0x36f, 2, 0x7b, 0x2ff, 0, 0x370, 0x10ffff, 0), 1, false}, // the rest alone
		{ranged(0x61, 0x7a, 1, 0x300, 0x36f, 2), 1, false}, {ranged(0x61, 0x7a, 1), 0, false}, {ranged(0x61, 0x7a, 2, 0x300, 0x36f, 1), 0, false},
		{ranged(0x61, 0x7b, 1, 0x300, 0x36f, 2), 0, false}, {ranged(0x61, 0x79, 1, 0x300, 0x36f, 2), 0, false}, {ranged(0x61, 0x7a, 1, 0x300, 0x36f, 2, 0x10ffff, 0x10ffff, 3), 0, false},
		{ranged(0x61+128, 0x7a+128, 1, 0x300, 0x36f, 2), 0, false}, // the same blocks, elsewhere
		{ranged(0x61, 0x7a, 1, 0x300, 0x36f, 2, 0x10ff80, 0x10ffff, 3), 0, false}, {ranged(0, 0, 9, 0x61, 0x7a, 1, 0x300, 0x36f, 2), 0, false},
	} {
		z := built(t, y.l, y.rest)
		if table.Equal(x, z) != y.want || table.Equal(z, x) != y.want {
			t.Errorf("Equal with %x, %d: %v", y.l, y.rest, !y.want)
		}
	}
	if !table.Equal(x, x) {
		t.Errorf("not Equal to itself")
	}
	var tables []*table.Table
	var plains []*plain
	for _, l := range lists()[:60] {
		p, _, _ := plainOf(l, 0)
		tables, plains = append(tables, built(t, l, 0)), append(plains, p)
	}
	for i := range tables {
		for k := range tables {
			if table.Equal(tables[i], tables[k]) != slices.Equal(plains[i].class, plains[k].class) {
				t.Errorf("Equal of %x and %x", tables[i].Ranges(), tables[k].Ranges())
			}
		}
	}
}
