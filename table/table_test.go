package table_test

import (
	"bytes"
	"math"
	"math/rand"
	"slices"
	"sync"
	"testing"

	"kerf/api"
	"kerf/table"
	"kerf/utf"
)

// built is what Build makes of what it must take.
func built(t *testing.T, l []api.Ranged, rest int) *table.Table {
	t.Helper()
	x, e, at := table.Build(l, rest)
	if x == nil || e != api.OK || at != 0 {
		t.Fatalf("Build(%x, %d): %d, %d", l, rest, e, at)
	}
	return x
}

// same holds all that a table tells against the plain one.
func same(t *testing.T, what string, x *table.Table, p *plain) {
	t.Helper()
	if x == nil {
		t.Fatalf("%s: nil", what)
	}
	for r, c := range p.class {
		if got := x.Get(rune(r)); got != int(c) {
			t.Fatalf("%s: Get(%x): %d; want %d", what, r, got, c)
		}
	}
	for _, r := range odd {
		if got := x.Get(r); got != p.rest {
			t.Fatalf("%s: Get(%d): %d; want the rest's, %d", what, r, got, p.rest)
		}
	}
	if x.Rest() != p.rest {
		t.Errorf("%s: Rest: %d; want %d", what, x.Rest(), p.rest)
	}
	if got, want := x.Ranges(), p.ranges(); !slices.Equal(got, want) {
		t.Errorf("%s: Ranges: %x; want %x", what, got, want)
	}
	if got, want := x.Blocks(), p.blocks(); got != want {
		t.Errorf("%s: Blocks: %d; want %d", what, got, want)
	}
	for c, n := range p.counts() {
		if got := x.Count(c); got != n {
			t.Errorf("%s: Count(%d): %d; want %d", what, c, got, n)
		}
	}
	if got, want := x.Bytes(), p.bytes(); !bytes.Equal(got, want) {
		t.Errorf("%s: Bytes: %x; want %x", what, got, want)
	}
}

// TestP3_1 holds tables of many lists and all that they tell against plain ones: P3.2 to P3.4 and P3.7's Bytes too.
func TestP3_1(t *testing.T) {
	for i, l := range lists() {
		rest := []int{0, 1, 255, 7}[i%4]
		p, e, _ := plainOf(l, rest)
		if e != api.OK {
			t.Fatalf("%x is no list to take", l)
		}
		same(t, "Build", built(t, l, rest), p)
	}
}

func TestP3_1Refused(t *testing.T) {
	for _, y := range []struct {
		l    []api.Ranged
		rest int
		e    api.Errno
		at   int
	}{
		{nil, -1, api.ErrRange, 0}, {nil, 256, api.ErrRange, 0}, {nil, math.MinInt, api.ErrRange, 0}, {nil, math.MaxInt, api.ErrRange, 0}, {ranged(1, 2, 3), 1 << 32, api.ErrRange, 0}, // no rest
		{ranged(5, 3, 1), 0, api.ErrRange, 0}, {ranged(5, 4, 1), 0, api.ErrRange, 0}, {ranged(-1, 3, 1), 0, api.ErrRange, 0}, {ranged(0, 0x110000, 1), 0, api.ErrRange, 0},
		{ranged(0x110000, 0x110000, 1), 0, api.ErrRange, 0}, {ranged(-2, -1, 1), 0, api.ErrRange, 0}, {ranged(math.MinInt32, math.MaxInt32, 1), 0, api.ErrRange, 0},
		{ranged(1, 2, -1), 0, api.ErrRange, 0}, {ranged(1, 2, 256), 0, api.ErrRange, 0}, {ranged(1, 2, math.MaxInt), 0, api.ErrRange, 0}, {ranged(1, 2, math.MinInt), 0, api.ErrRange, 0}, {ranged(1, 2, 1<<32), 0, api.ErrRange, 0},
		{ranged(1, 2, 1, 4, 3, 1), 0, api.ErrRange, 1}, {ranged(1, 2, 1, 4, 4, 256), 0, api.ErrRange, 1},
		{ranged(1, 5, 1, 5, 6, 1), 0, api.ErrThere, 1}, {ranged(1, 5, 1, 0, 1, 1), 0, api.ErrThere, 1}, {ranged(1, 5, 1, 2, 3, 2), 0, api.ErrThere, 1}, {ranged(2, 3, 1, 1, 5, 2), 0, api.ErrThere, 1}, {ranged(1, 5, 0, 1, 5, 0), 0, api.ErrThere, 1},
		{ranged(0, 0, 1, 0x10ffff, 0x10ffff, 1, 0, 0x10ffff, 1), 0, api.ErrThere, 2}, {ranged(10, 12, 1, 1, 2, 1, 5, 6, 1, 6, 10, 1), 0, api.ErrThere, 3}, {ranged(10, 12, 1, 1, 2, 1, 5, 6, 1, 12, 14, 1), 0, api.ErrThere, 3},
		{ranged(1, 5, 1, 5, 6, 256), 0, api.ErrRange, 1},              // both: the one that is named first
		{ranged(1, 5, 1, 5, 6, 1, 3, 2, 1), 0, api.ErrThere, 1},       // the first range that fails
		{ranged(1, 5, 1, 3, 2, 1, 5, 6, 1), 0, api.ErrRange, 1},       //
		{ranged(3, 2, 1), 256, api.ErrRange, 0},                       //
		{ranged(7, 8, 1, 3, 2, 1), -1, api.ErrRange, 0},               // the rest ahead of all ranges
		{strewn(4097), 0, api.ErrMany, 0},                             //
		{strewn(5000), 0, api.ErrMany, 0},                             //
		{strewn(4097), 256, api.ErrRange, 0},                          // the rest ahead of how many there are
		{append(ranged(5, 3, 1), strewn(4096)...), 0, api.ErrMany, 0}, // and that ahead of the ranges
		{append(strewn(4095), ranged(5, 3, 1)...), 0, api.ErrRange, 4095},
		{append(strewn(4095), ranged(1, 3, 1)...), 0, api.ErrThere, 4095},
	} {
		if x, e, at := table.Build(y.l, y.rest); x != nil || e != y.e || at != y.at {
			t.Errorf("Build(%d ranges %x, %d): %d, %d; want %d, %d", len(y.l), y.l[:min(4, len(y.l))], y.rest, e, at, y.e, y.at)
		}
	}
}

// TestP3_1Any holds lists of any kind against the chapter: whether they are taken, and where they fail.
func TestP3_1Any(t *testing.T) {
	rnd := rand.New(rand.NewSource(1))
	seen := map[api.Errno]int{}
	for range 3000 {
		var l []api.Ranged
		for range rnd.Intn(7) {
			lo := rnd.Intn(60) - 1
			l = append(l, ranged(lo, lo+rnd.Intn(8)-1, rnd.Intn(258)-1)...)
		}
		if rnd.Intn(3) == 0 {
			for i := range l {
				l[i].Lo, l[i].Hi = 0x10ffff-l[i].Hi, 0x10ffff-l[i].Lo
			}
		}
		want, at := refused(l)
		x, e, got := table.Build(l, 0)
		seen[e]++
		if e != want || got != at || (x == nil) != (e != api.OK) {
			t.Fatalf("Build(%x): %d, %d; want %d, %d", l, e, got, want, at)
		}
	}
	if seen[api.OK] < 100 || seen[api.ErrRange] < 100 || seen[api.ErrThere] < 100 {
		t.Errorf("too few of a kind: %v", seen)
	}
}

// refused is plainOf's error, without the table: each range is held against each ahead of it.
func refused(l []api.Ranged) (api.Errno, int) {
	for i, g := range l {
		if wrong(g) {
			return api.ErrRange, i
		}
		for _, h := range l[:i] {
			if g.Lo <= h.Hi && h.Lo <= g.Hi {
				return api.ErrThere, i
			}
		}
	}
	return api.OK, 0
}

func TestP3_1Many(t *testing.T) {
	for _, n := range []int{4095, 4096} {
		l := strewn(n)
		p, _, _ := plainOf(l, 3)
		same(t, "rising", built(t, l, 3), p)
		slices.Reverse(l)
		same(t, "falling", built(t, l, 3), p)
	}
	rnd := rand.New(rand.NewSource(4))
	l := apart(rnd, 5500, numbers)
	for len(l) > 4096 {
		l = l[1:]
	}
	p, _, _ := plainOf(l, 2)
	same(t, "many", built(t, l, 2), p)
}

func TestP3_2Classes(t *testing.T) {
	for i, l := range lists() {
		rest := i % 3
		p, _, _ := plainOf(l, rest)
		x := built(t, l, rest)
		for _, s := range []string{"", "a", "abcz", "a\x80", "\xff\xfe", "\u0301a\u0300", "\ufffd", "\xed\xa0\x80", "\xf4\x90\x80\x80", "\U0010ffff\x00", "a\xe2\x82z\u20ac", "\xf0\x9f\x98", "\U0001f600\xf0\x9f\x98\x80\x80"} {
			var want []int
			for _, r := range []rune(s) { // what belongs to no rune is fffd here, too, a byte each
				want = append(want, int(p.class[r]))
			}
			if got := x.Classes(s); !slices.Equal(got, want) {
				t.Errorf("%x: Classes(%q): %d; want %d", l, s, got, want)
			}
			if len(want) != utf.Count(s) {
				t.Errorf("%q: %d runes", s, len(want))
			}
		}
	}
}

func TestP3_4Count(t *testing.T) {
	x := built(t, ranged(0x61, 0x7a, 1, 0x300, 0x36f, 255), 0)
	for _, c := range []int{-1, 2, 254, 256, 257, 511, 1 << 32, math.MinInt, math.MaxInt, -255, -256} {
		if n := x.Count(c); n != 0 {
			t.Errorf("Count(%d): %d", c, n)
		}
	}
	if x.Count(1) != 26 || x.Count(255) != 112 || x.Count(0) != numbers-26-112 {
		t.Errorf("Count: %d, %d, %d", x.Count(1), x.Count(255), x.Count(0))
	}
}

func TestP3_8(t *testing.T) {
	for i, l := range append(lists(), strewn(4096)) {
		x := built(t, l, i%5)
		y := built(t, x.Ranges(), x.Rest())
		if !table.Equal(x, y) || !table.Equal(y, x) {
			t.Errorf("%x: there and back by ranges", l)
		}
		z, e := table.Load(x.Bytes())
		if e != api.OK || !table.Equal(x, z) || !table.Equal(z, x) || !bytes.Equal(z.Bytes(), x.Bytes()) {
			t.Errorf("%x: there and back by bytes: %d", l, e)
		}
	}
}

func TestP3_9(t *testing.T) {
	rnd := rand.New(rand.NewSource(9))
	for i, l := range append(lists(), strewn(4096), apart(rnd, 2000, numbers)) {
		x := built(t, l, i%5)
		for range 4 {
			rnd.Shuffle(len(l), func(i, k int) { l[i], l[k] = l[k], l[i] })
			if y := built(t, l, i%5); !table.Equal(x, y) || x.Blocks() != y.Blocks() {
				t.Errorf("%x: the order has a part", l)
			}
		}
	}
}

func TestP3_10(t *testing.T) {
	for i, l := range append(lists(), strewn(4096)) {
		x := built(t, l, []int{0, 255, 3}[i%3])
		n := 0
		for c := 0; c <= api.MaxClass; c++ {
			n += x.Count(c)
		}
		if n != numbers {
			t.Errorf("%x: %d in all", l, n)
		}
	}
}

// TestNothingShared holds each call to rule 3: what is handed in stays, spare room too, and what is answered is new.
func TestNothingShared(t *testing.T) {
	l := append(make([]api.Ranged, 0, 8), ranged(0x300, 0x36f, 2, 0x61, 0x7a, 1, 200, 210, 1)...)
	x := built(t, l, 0)
	y := built(t, ranged(0x62, 0x63, 1), 5)
	to := append(make([]int, 0, 8), 3, 4, 5)
	b := append(make([]byte, 0, 16), x.Bytes()...)
	long := cap(b)
	answers := func() ([]api.Ranged, []int, []byte, []api.Two) {
		_, pairs, _ := table.Pair(x, y)
		return x.Ranges(), x.Classes("a\x80b\u0301"), x.Bytes(), pairs
	}
	m, _ := x.Map(to)
	z, _ := table.Load(b)
	ranges, classes, all, pairs := answers()
	ranges0, classes0, all0, pairs0 := slices.Clone(ranges), slices.Clone(classes), slices.Clone(all), slices.Clone(pairs)
	spoil(ranges, api.Ranged{Lo: 9, Hi: 9, Class: 9})
	spoil(classes, 9)
	spoil(all, 9)
	spoil(pairs, api.Two{A: 9, B: 9})
	ranges, classes, all, pairs = answers()
	if !slices.Equal(ranges, ranges0) || !slices.Equal(classes, classes0) || !bytes.Equal(all, all0) || !slices.Equal(pairs, pairs0) {
		t.Errorf("answered again: %x, %d, %x, %d", ranges, classes, all, pairs)
	}
	if !slices.Equal(l[:8], append(ranged(0x300, 0x36f, 2, 0x61, 0x7a, 1, 200, 210, 1), make([]api.Ranged, 5)...)) {
		t.Errorf("the list of ranges: %x", l[:8])
	}
	if !slices.Equal(to[:8], []int{3, 4, 5, 0, 0, 0, 0, 0}) {
		t.Errorf("the list of classes: %d", to[:8])
	}
	if !bytes.Equal(b[:long], append(slices.Clone(all0), make([]byte, long-len(all0))...)) {
		t.Errorf("the bytes: %x", b[:long])
	}
	spoil(l, api.Ranged{Lo: 1, Hi: 1, Class: 1})
	spoil(to, 1)
	spoil(b, 1)
	if x.Get(0x61) != 1 || m.Get(0x61) != 4 || z.Get(0x61) != 1 || m.Rest() != 3 || !table.Equal(x, z) {
		t.Errorf("a table keeps what was handed in")
	}
}

// spoil overwrites all of l, its spare room too.
func spoil[T any](l []T, with T) {
	l = l[:cap(l)]
	for i := range l {
		l[i] = with
	}
}

func TestGoroutines(t *testing.T) {
	x := built(t, ranged(0x61, 0x7a, 1, 0x300, 0x36f, 2), 0)
	y := built(t, ranged(0x62, 0x63, 1), 5)
	want := x.Bytes()
	var all sync.WaitGroup
	for range 8 {
		all.Go(func() {
			for range 20 {
				p, two, e := table.Pair(x, y)
				m, f := x.Map([]int{2, 1, 0})
				if e != api.OK || f != api.OK || len(two) != 4 || p.Rest() != 0 || m.Get('a') != 1 || !bytes.Equal(x.Bytes(), want) || x.Count(1) != 26 || x.Blocks() != 3 || x.Get('b') != 1 || !slices.Equal(x.Classes("a\x80"), []int{1, 0}) {
					t.Errorf("among several: %d, %d, %d", e, f, two)
				}
			}
		})
	}
	all.Wait()
}

func TestExamples(t *testing.T) {
	x := built(t, ranged(0x61, 0x7a, 1, 0x300, 0x36f, 2), 0)
	if x.Get('b') != 1 || x.Get(0x301) != 2 || x.Get('A') != 0 || x.Get(-1) != 0 || x.Blocks() != 3 || !slices.Equal(x.Classes("a\x80"), []int{1, 0}) {
		t.Errorf("the first: %d %d %d %d %d", x.Get('b'), x.Get(0x301), x.Get('A'), x.Get(-1), x.Blocks())
	}
	if _, e, at := table.Build(ranged(5, 3, 1), 0); e != api.ErrRange || at != 0 {
		t.Errorf("the second: %d, %d", e, at)
	}
	if _, e, at := table.Build(ranged(1, 5, 1, 5, 6, 1), 0); e != api.ErrThere || at != 1 {
		t.Errorf("the second: %d, %d", e, at)
	}
	if b := built(t, ranged(0x61, 0x7a, 1), 0).Bytes(); string(b) != "\x00\x01\x61\x19\x01" {
		t.Errorf("the third: %x", b)
	}
}
