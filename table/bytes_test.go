package table_test

import (
	"bytes"
	"math/rand"
	"slices"
	"testing"

	"kerf/api"
	"kerf/table"
)

func TestP3_7Bytes(t *testing.T) {
	for _, y := range []struct {
		l    []api.Ranged
		rest int
		want string
	}{
		{nil, 0, "\x00\x00"}, {nil, 255, "\xff\x00"}, {ranged(0x61, 0x7a, 1), 0, "\x00\x01\x61\x19\x01"}, {ranged(0, 0x10ffff, 3), 3, "\x03\x00"},
		{ranged(0, 0, 1), 0, "\x00\x01\x00\x00\x01"}, {ranged(0, 0, 0), 200, "\xc8\x01\x00\x00\x00"}, {ranged(0, 0x10ffff, 200), 0, "\x00\x01\x00\xff\xff\x43\xc8"},
		{ranged(127, 254, 1), 0, "\x00\x01\x7f\x7f\x01"}, {ranged(128, 256, 1), 0, "\x00\x01\x80\x01\x80\x01\x01"}, {ranged(16383, 16383, 1), 0, "\x00\x01\xff\x7f\x00\x01"}, {ranged(16384, 16384, 1), 0, "\x00\x01\x80\x80\x01\x00\x01"},
		{ranged(5, 6, 1, 7, 9, 2, 11, 11, 1), 0, "\x00\x03\x05\x01\x01\x00\x02\x02\x01\x00\x01"}, {ranged(0x10ffff, 0x10ffff, 1), 0, "\x00\x01\xff\xff\x43\x00\x01"},
	} {
		if got := built(t, y.l, y.rest).Bytes(); string(got) != y.want {
			t.Errorf("Build(%x, %d): Bytes: %x; want %x", y.l, y.rest, got, y.want)
		}
	}
}

func TestP3_7Refused(t *testing.T) {
	for _, b := range []string{
		"", "\x00", "\x00\x80", "\x00\x81", "\x00\x01", "\x00\x01\x61", "\x00\x01\x61\x19", "\x00\x01\xe1", "\x00\x01\x61\x99", "\x00\x01\x61\x99\x01", "\x00\x02\x61\x19\x01", "\x00\x02\x61\x19\x01\x00", "\x00\x02\x61\x19\x01\x00\x00", // cut short
		"\x00\x00\x00", "\x00\x01\x61\x19\x01\x00", "\x00\x00\x61\x19\x01", "\x00\x01\x61\x19\x01\x61\x19\x01", "\x00\x01\x00\x00\x01\x00\x00\x02", // left over, or more ranges than said
		"\x00\x80\x00", "\x00\x81\x00", "\x00\x81\x00\x61\x19\x01", "\x00\x01\xe1\x00\x19\x01", "\x00\x01\x61\x99\x00\x01", "\x00\x81\x80\x00\x61\x19\x01", "\x00\x01\xe1\x80\x00\x19\x01", "\x00\x01\xe1\x80\x80\x00\x19\x01", "\x00\x01\x80\x00\x00\x01", // longer than need be
		"\x00\x01\x80\x80\x44\x00\x01", "\x00\x01\x00\x80\x80\x44\x01", "\x00\x01\xff\xff\x43\x01\x01", "\x00\x01\x01\xff\xff\x43\x01", "\x00\x01\xff\xff\x7f\x00\x01", "\x00\x01\xff\xff\xff\x7f\x00\x01", "\x00\x02\xff\xff\x43\x00\x01\x00\x00\x02", "\x00\x02\xff\xff\x43\x00\x01\x01\x00\x02", // past MaxRune
		"\x00\x01\x80\x80\x80\x80\x10\x00\x01", "\x00\x01\x80\x80\x80\x80\x80\x80\x80\x80\x80\x02\x00\x01", "\x00\x01\xff\xff\xff\xff\xff\xff\xff\xff\xff\x01\x00\x01", "\x00\xff\xff\xff\xff\xff\xff\xff\xff\xff\x01\x61\x19\x01", "\x00\x81\x80\x80\x80\x80\x80\x80\x80\x80\x02\x61\x19\x01", "\x00\x01\xe1\x80\x80\x80\x80\x80\x80\x80\x80\x02\x19\x01", "\x00\xff\xff\xff\xff\xff\xff\xff\xff\x7f", // too great
		"\x00\x81\x80\x80\x01\x61\x19\x01", "\x00\x80\x80\x80\x01", "\x00\xff\xff\x43\x61\x19\x01",
		"\x00\x02\x00\x00\x01\x00\x00\x01", "\x00\x03\x05\x00\x01\x00\x00\x02\x00\x00\x02", "\x00\x03\x05\x00\x01\x05\x00\x02\x00\x05\x02", // which touch and have the same class
		"\x00\x01\x61\x19\x00", "\x07\x01\x00\x00\x07", "\x07\x02\x00\x00\x01\x05\x00\x07", "\xff\x01\x61\x19\xff", "\x00\x01\x00\xff\xff\x43\x00", // the rest's class
	} {
		if x, e := table.Load([]byte(b)); x != nil || e != api.ErrTable {
			t.Errorf("Load(%x): %d", b, e)
		}
		if _, _, ok := read([]byte(b)); ok {
			t.Errorf("%x is a table's", b)
		}
	}
	if x, e := table.Load(nil); x != nil || e != api.ErrTable {
		t.Errorf("Load of none: %d", e)
	}
}

// checkLoad holds Load of b against the chapter; it says whether b is a table's.
func checkLoad(t *testing.T, b []byte) bool {
	t.Helper()
	l, rest, ok := read(b)
	x, e := table.Load(b)
	switch {
	case ok != (e == api.OK) || !ok && (x != nil || e != api.ErrTable):
		t.Fatalf("Load(%x): %d", b, e)
	case ok && (x.Rest() != rest || !slices.Equal(x.Ranges(), l) || !bytes.Equal(x.Bytes(), b)):
		t.Fatalf("Load(%x): %x, %d; want %x, %d", b, x.Ranges(), x.Rest(), l, rest)
	}
	return ok
}

func TestP3_7Load(t *testing.T) {
	rnd := rand.New(rand.NewSource(7))
	taken, refused := 0, 0
	count := func(ok bool) {
		if ok {
			taken++
		} else {
			refused++
		}
	}
	for i, l := range lists() {
		p, _, _ := plainOf(l, i%3)
		b := p.bytes()
		x, e := table.Load(b)
		if e != api.OK {
			t.Fatalf("Load(%x): %d", b, e)
		}
		if i%3 == 0 {
			same(t, "Load", x, p)
		}
		for n := range b {
			count(checkLoad(t, b[:n]))
		}
		count(checkLoad(t, append(slices.Clone(b), 0)))
		for range 40 { // a byte changed, laid in or left out
			c := slices.Clone(b)
			at := rnd.Intn(len(c))
			switch rnd.Intn(3) {
			case 0:
				c[at] = byte(rnd.Intn(256))
			case 1:
				c = slices.Insert(c, at, []byte{0, 1, 0x80, 0xff}[rnd.Intn(4)])
			case 2:
				c = slices.Delete(c, at, at+1)
			}
			count(checkLoad(t, c))
		}
	}
	for range 20000 { // bytes of few kinds, so that many of them are a table's
		b := make([]byte, rnd.Intn(12))
		for i := range b {
			b[i] = []byte{0, 0, 1, 2, 3, 0x80, 0x81, 0xff}[rnd.Intn(8)]
		}
		count(checkLoad(t, b))
	}
	if taken < 500 || refused < 5000 {
		t.Errorf("too few of a kind: %d taken, %d refused", taken, refused)
	}
}

// TestP3_7Great loads tables of more ranges than Build takes: of Pair and of bytes there may be as many as there are numbers.
func TestP3_7Great(t *testing.T) {
	p := &plain{make([]uint8, numbers), 0}
	for r := range p.class {
		p.class[r] = uint8(1 + (r%7+r/128%9)%5)
	}
	b := p.bytes()
	x, e := table.Load(b)
	if e != api.OK {
		t.Fatalf("Load: %d", e)
	}
	same(t, "every number by itself", x, p)
	if y, e, at := table.Build(x.Ranges(), 0); y != nil || e != api.ErrMany || at != 0 {
		t.Errorf("Build: %d, %d", e, at)
	}
	for r := range p.class {
		p.class[r] = uint8(r >> 7 >> (r % 128 % 14) & 1)
	}
	x, e = table.Load(p.bytes())
	if e != api.OK || x.Blocks() != numbers/128 {
		t.Fatalf("Load: %d", e)
	}
	same(t, "every block by itself", x, p)
	l, m := strewn(4096), strewn(4096)
	for i := range m {
		m[i] = api.Ranged{Lo: l[i].Lo + 30000, Hi: l[i].Hi + 30000, Class: 1}
		l[i].Class = 1
	}
	y, _, _ := table.Pair(built(t, l, 0), built(t, m, 0))
	if n := len(y.Ranges()); n != 8192 {
		t.Errorf("Pair: %d ranges", n)
	}
	z, e := table.Load(y.Bytes())
	if e != api.OK || !table.Equal(y, z) {
		t.Errorf("Load of Pair: %d", e)
	}
}

func TestP3_7Nil(t *testing.T) {
	var none *table.Table
	x := built(t, nil, 0)
	if none.Get('a') != 0 || none.Get(-1) != 0 || none.Rest() != 0 || none.Blocks() != 0 || none.Count(0) != 0 || none.Count(-1) != 0 {
		t.Errorf("numbers of a nil table")
	}
	if len(none.Classes("abc")) > 0 || len(none.Ranges()) > 0 || len(none.Bytes()) > 0 {
		t.Errorf("lists of a nil table")
	}
	for _, to := range [][]int{nil, {0}, {256}, {-1, 3}} {
		if y, e := none.Map(to); y != nil || e != api.OK {
			t.Errorf("Map(%d): %d", to, e)
		}
	}
	for _, y := range [][2]*table.Table{{none, none}, {x, none}, {none, x}} {
		if z, two, e := table.Pair(y[0], y[1]); z != nil || len(two) > 0 || e != api.OK {
			t.Errorf("Pair: %d, %d", two, e)
		}
	}
	if !table.Equal(none, none) || table.Equal(x, none) || table.Equal(none, x) {
		t.Errorf("Equal with a nil table")
	}
}
