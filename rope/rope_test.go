package rope_test

import (
	"math"
	"math/rand"
	"strings"
	"testing"

	"kerf/api"
	"kerf/rope"
)

// TestP20_1 has texts by hand, and what they count.
func TestP20_1(t *testing.T) {
	for _, c := range []struct {
		s                    string
		runes, units, breaks int
	}{
		{"", 0, 0, 0},
		{"a", 1, 1, 0},
		{"\n", 1, 1, 1},
		{"a\nb\n", 4, 4, 2},
		{"\r\n", 2, 2, 1},
		{"\u0085\u2028", 2, 2, 0}, // no bytes 10
		{"a\U0001f600b", 3, 4, 0},
		{"\uffff\U00010000", 2, 3, 0},
		{"\xe2\x82\xac", 1, 1, 0},
		{"\xe2\x82", 2, 2, 0},
		{"\x82\xac", 2, 2, 0},
		{"\xf0\x9f\x98", 3, 3, 0},
		{"\xf0\x9f\n\x98\x80", 5, 5, 1},
		{"\xed\xa0\x80\xed\xb0\x80", 6, 6, 0},
		{"\ufffd\xff", 2, 2, 0},
	} {
		r := made(t, c.s)
		if r.String() != c.s || r.Len() != len(c.s) || r.Runes() != c.runes || r.Units() != c.units || r.Breaks() != c.breaks {
			t.Errorf("%q: %q, %d bytes, %d runes, %d units, %d breaks", c.s, r.String(), r.Len(), r.Runes(), r.Units(), r.Breaks())
		}
		held(t, r, c.s)
	}
}

// TestP20_1Long has texts that are about as long as may be.
func TestP20_1Long(t *testing.T) {
	source := rand.New(rand.NewSource(201))
	for _, part := range []string{"a", "\n", "\xe2\x82", "\U0001f600", "a\u20ac", "\xff", "\u00e9\n"} {
		s := strings.Repeat(part, api.MaxRope/len(part)+1)
		heldSome(t, made(t, s[:api.MaxRope]), s[:api.MaxRope], source)
		heldSome(t, made(t, s[:api.MaxRope-1]), s[:api.MaxRope-1], source)
		for _, more := range []int{1, 2, 1000} {
			if r, e := rope.New(s[:api.MaxRope] + part[:1] + strings.Repeat("x", more-1)); r != nil || e != api.ErrLong {
				t.Errorf("%q: %d bytes too many: %v", part, more, e)
			}
		}
	}
}

// TestP20_1Pieces has texts about as long as one piece or some, where runes lie over every place.
func TestP20_1Pieces(t *testing.T) {
	for _, part := range []string{"a", "\U0001f600", "\u20ac", "\u00e9", "\x80", "\xf0\x9f\x98"} {
		for _, long := range []int{api.MaxPiece, 2 * api.MaxPiece} {
			for ahead := range 5 {
				s := strings.Repeat("x", ahead) + strings.Repeat(part, long/len(part)+6)
				for more := -2; more <= 5; more++ {
					held(t, made(t, s[:long+more]), s[:long+more])
				}
			}
		}
	}
}

// TestP20_2 has what is made of a rope, by hand.
func TestP20_2(t *testing.T) {
	r := made(t, "a\u20acb")
	for _, c := range []struct {
		from, to    int
		slice, left string
	}{
		{0, 5, "a\u20acb", ""},
		{0, 0, "", "a\u20acb"},
		{5, 5, "", "a\u20acb"},
		{2, 2, "", "a\u20acb"},
		{1, 4, "\u20ac", "ab"},
		{0, 1, "a", "\u20acb"},
		{2, 5, "\x82\xacb", "a\xe2"},
		{0, 3, "a\xe2\x82", "\xacb"},
		{2, 3, "\x82", "a\xe2\xacb"},
	} {
		slice, e := r.Slice(c.from, c.to)
		if e != api.OK {
			t.Fatal(c, e)
		}
		held(t, slice, c.slice)
		left, e := r.Delete(c.from, c.to)
		if e != api.OK {
			t.Fatal(c, e)
		}
		held(t, left, c.left)
	}
	for at := range 6 {
		a, b, e := r.Cut(at)
		if e != api.OK {
			t.Fatal(at, e)
		}
		held(t, a, "a\u20acb"[:at])
		held(t, b, "a\u20acb"[at:])
		for _, s := range []string{"", "x", "\xe2", "\x82\xac", "\n\n"} {
			x, e := r.Insert(at, s)
			if e != api.OK {
				t.Fatal(at, s, e)
			}
			held(t, x, "a\u20acb"[:at]+s+"a\u20acb"[at:])
		}
	}
	held(t, r, "a\u20acb")
}

// TestP20_2Runes has runes that are put together by what is made, and taken apart.
func TestP20_2Runes(t *testing.T) {
	r, e := made(t, "a\xf0\x98\x80b").Insert(2, "\x9f")
	if e != api.OK || r.Runes() != 3 {
		t.Error(e, r.Runes())
	}
	held(t, r, "a\U0001f600b")
	r, e = r.Delete(2, 3)
	if e != api.OK || r.Runes() != 5 {
		t.Error(e, r.Runes())
	}
	held(t, r, "a\xf0\x98\x80b")
	r, e = made(t, "\xe2\x82--\xac").Delete(2, 4)
	if e != api.OK || r.Runes() != 1 {
		t.Error(e, r.Runes())
	}
	held(t, r, "\u20ac")
}

// TestP20_2Wrong has places that are none, and texts that are too long.
func TestP20_2Wrong(t *testing.T) {
	for _, s := range []string{"", "abc", strings.Repeat("ab\u20ac", 300)} {
		r := made(t, s)
		if s == "" {
			refused(t, nil, 0)
		}
		refused(t, r, len(s))
		held(t, r, s)
	}
}

// refused has r refuse all that is no place.
func refused(t *testing.T, r *rope.Rope, long int) {
	t.Helper()
	none := append([]int{-1, -2, long + 1, long + 2}, far...)
	for _, at := range none {
		if a, b, e := r.Cut(at); a != nil || b != nil || e != api.ErrPlace {
			t.Error("cut", long, at, e)
		}
		if x, e := r.Insert(at, "x"); x != nil || e != api.ErrPlace {
			t.Error("insert", long, at, e)
		}
		if x, e := r.Insert(at, ""); x != nil || e != api.ErrPlace {
			t.Error("insert", long, at, e)
		}
		for _, other := range append([]int{0, long}, none...) {
			refusedSpan(t, r, at, other)
			refusedSpan(t, r, other, at)
		}
	}
	if long > 0 {
		refusedSpan(t, r, 1, 0)
		refusedSpan(t, r, long, 0)
		refusedSpan(t, r, long, long-1)
	}
}

func refusedSpan(t *testing.T, r *rope.Rope, from, to int) {
	t.Helper()
	if x, e := r.Slice(from, to); x != nil || e != api.ErrPlace {
		t.Error("slice", from, to, e)
	}
	if x, e := r.Delete(from, to); x != nil || e != api.ErrPlace {
		t.Error("delete", from, to, e)
	}
}

// TestP20_2Long has what would be too long by one, and what is not.
func TestP20_2Long(t *testing.T) {
	full := made(t, strings.Repeat("\U0001f600", api.MaxRope/4))
	half := made(t, strings.Repeat("ab", api.MaxRope/4))
	for _, at := range []int{0, 1, 4, 5000, api.MaxRope} {
		if x, e := full.Insert(at, "x"); x != nil || e != api.ErrLong {
			t.Error(at, e)
		}
		if x, e := full.Insert(at, ""); e != api.OK || !rope.Equal(x, full) {
			t.Error(at, e)
		}
		if x, e := made(t, "").Insert(0, strings.Repeat("x", api.MaxRope+1+at)); x != nil || e != api.ErrLong {
			t.Error(at, e)
		}
	}
	for _, at := range []int{-1, api.MaxRope + 1, math.MaxInt} { // what is no place comes ahead of what is too long
		if x, e := full.Insert(at, "x"); x != nil || e != api.ErrPlace {
			t.Error(at, e)
		}
	}
	if x, e := half.Insert(7, strings.Repeat("x", api.MaxRope/2)); e != api.OK || x.Len() != api.MaxRope {
		t.Error(e)
	}
	if x, e := half.Insert(7, strings.Repeat("x", api.MaxRope/2+1)); x != nil || e != api.ErrLong {
		t.Error(e)
	}
	for _, c := range []struct {
		a, b *rope.Rope
		e    api.Errno
	}{
		{full, nil, api.OK},
		{nil, full, api.OK},
		{full, made(t, ""), api.OK},
		{half, half, api.OK},
		{full, made(t, "x"), api.ErrLong},
		{made(t, "x"), full, api.ErrLong},
		{full, full, api.ErrLong},
		{half, full, api.ErrLong},
	} {
		x, e := rope.Join(c.a, c.b)
		if e != c.e || (x == nil) != (e != api.OK) {
			t.Error(c.a.Len(), c.b.Len(), e)
		}
		if x != nil && (x.Len() != api.MaxRope || x.String() != c.a.String()+c.b.String()) {
			t.Error(c.a.Len(), c.b.Len())
		}
	}
}

// TestP20_2Nil is that a nil rope is the empty one.
func TestP20_2Nil(t *testing.T) {
	var none *rope.Rope
	held(t, none, "")
	if x, e := none.Slice(0, 0); e != api.OK || x == nil || x.Len() != 0 {
		t.Error(x, e)
	}
	if x, e := none.Delete(0, 0); e != api.OK || x == nil || x.Len() != 0 {
		t.Error(x, e)
	}
	if a, b, e := none.Cut(0); e != api.OK || a == nil || b == nil || a.Len()+b.Len() != 0 {
		t.Error(a, b, e)
	}
	x, e := none.Insert(0, "a\u20ac")
	if e != api.OK {
		t.Fatal(e)
	}
	held(t, x, "a\u20ac")
	held(t, joined(t, none, none), "")
	held(t, joined(t, none, x), "a\u20ac")
	held(t, joined(t, x, none), "a\u20ac")
	if !rope.Equal(none, nil) || !rope.Equal(none, made(t, "")) || !rope.Equal(made(t, ""), none) || rope.Equal(none, x) || rope.Equal(x, none) {
		t.Error("is nil the empty one")
	}
}

// TestP20_2Short has all there is of short texts: each cut, each slice, each insertion of a part.
func TestP20_2Short(t *testing.T) {
	for long := range 4 {
		for s := range rows(long, "a", "\n", "\xe2", "\x82", "\xac", "\xf0\x9f", "\U0001f600") {
			held(t, made(t, s), s)
			held(t, bytewise(t, s, false), s)
			held(t, bytewise(t, s, true), s)
			r := bytewise(t, s, long%2 == 0)
			for from := range len(s) + 1 {
				for to := from; to <= len(s); to++ {
					slice, e := r.Slice(from, to)
					left, f := r.Delete(from, to)
					if e != api.OK || f != api.OK || slice.Runes() != len([]rune(s[from:to])) || left.Runes() != len([]rune(s[:from]+s[to:])) {
						t.Fatalf("%q: %d to %d: %d %d", s, from, to, e, f)
					}
					heldCounts(t, slice, plainOf(s[from:to]))
					heldCounts(t, left, plainOf(s[:from]+s[to:]))
				}
			}
		}
	}
}

// TestP20_2Some does one thing behind the other to ropes that become long.
func TestP20_2Some(t *testing.T) {
	source := rand.New(rand.NewSource(202))
	for range 120 {
		s := someText(source, 1500)
		r := made(t, s)
		for range 40 {
			r, s = changed(t, r, s, source)
			heldSome(t, r, s, source)
		}
	}
}

// changed does something to a rope, and the same to a string.
func changed(t *testing.T, r *rope.Rope, s string, source *rand.Rand) (*rope.Rope, string) {
	t.Helper()
	from := source.Intn(len(s) + 1)
	to := from + source.Intn(len(s)-from+1)
	e := api.OK
	switch source.Intn(8) {
	case 0, 1:
		more := someText(source, 4)
		r, e = r.Insert(from, more)
		s = s[:from] + more + s[from:]
	case 2:
		more := someText(source, 900)
		r, e = r.Insert(from, more)
		s = s[:from] + more + s[from:]
	case 3, 4:
		to = min(to, from+5)
		r, e = r.Delete(from, to)
		s = s[:from] + s[to:]
	case 5:
		r, e = r.Delete(from, to)
		s = s[:from] + s[to:]
	case 6:
		a, b, f := r.Cut(from)
		if f != api.OK {
			t.Fatal(f)
		}
		r, e = rope.Join(b, a)
		s = s[from:] + s[:from]
	case 7:
		slice, f := r.Slice(from, to)
		if f != api.OK {
			t.Fatal(f)
		}
		r, e = rope.Join(slice, r)
		s = s[from:to] + s
	}
	if e != api.OK {
		t.Fatal(e)
	}
	return r, s
}

// TestP20_3 has bytes and runes by hand.
func TestP20_3(t *testing.T) {
	r := made(t, "a\u20ac\x82\ufffd\U0001f600\xf0\x9f")
	for _, c := range []struct {
		at    int
		b     byte
		is    bool
		r     rune
		width int
	}{
		{math.MinInt, 0, false, 0, 0},
		{-1, 0, false, 0, 0},
		{0, 'a', true, 'a', 1},
		{1, 0xe2, true, 0x20ac, 3},
		{2, 0x82, true, 0, 0},
		{3, 0xac, true, 0, 0},
		{4, 0x82, true, 0xfffd, 1},
		{5, 0xef, true, 0xfffd, 3},
		{6, 0xbf, true, 0, 0},
		{8, 0xf0, true, 0x1f600, 4},
		{9, 0x9f, true, 0, 0},
		{11, 0x80, true, 0, 0},
		{12, 0xf0, true, 0xfffd, 1},
		{13, 0x9f, true, 0xfffd, 1},
		{14, 0, false, 0, 0},
		{15, 0, false, 0, 0},
		{math.MaxInt, 0, false, 0, 0},
	} {
		if b, is := r.Byte(c.at); b != c.b || is != c.is {
			t.Errorf("byte %d: %x %v", c.at, b, is)
		}
		if got, width := r.Rune(c.at); got != c.r || width != c.width {
			t.Errorf("rune at %d: %x %d", c.at, got, width)
		}
	}
	if c, width := made(t, "\u00e9").Rune(1); c != 0 || width != 0 {
		t.Error(c, width)
	}
	if c, width := made(t, "\x00").Rune(0); c != 0 || width != 1 {
		t.Error(c, width)
	}
}
