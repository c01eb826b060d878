package rope_test

import (
	"math/rand"
	"strings"
	"testing"

	"kerf/api"
	"kerf/rope"
)

// TestP20_5Pieces is that pieces may be left, gone over again, and nested.
func TestP20_5Pieces(t *testing.T) {
	s := strings.Repeat("a\U0001f600\n", 500)
	r := made(t, s)
	all := r.Pieces()
	for again := range 3 {
		n := 0
		for range all {
			if n == again {
				break
			}
			n++
		}
		if n != again {
			t.Error(n, again)
		}
	}
	outer := ""
	for p := range all {
		inner := ""
		for q := range all {
			inner += q
		}
		if inner != s {
			t.Fatal(len(inner))
		}
		outer += p
	}
	if outer != s {
		t.Error(len(outer))
	}
	for range made(t, "").Pieces() {
		t.Error("a piece of nothing")
	}
}

// TestP20_5Each is that runes may be left, gone over again, and nested; from each place on.
func TestP20_5Each(t *testing.T) {
	s := strings.Repeat("a\U0001f600\n\xe2\x82", 200)
	r := made(t, s)
	l := marks(s)
	for i := 0; i < len(l); i += 37 {
		all := r.Each(l[i].at)
		for _, most := range []int{0, 1, 5, 300, len(l)} {
			rest := l[i:]
			n := 0
			for at, c := range all {
				if n == most {
					break
				}
				if rest[n].at != at || rest[n].r != c {
					t.Fatal(i, n, at, c)
				}
				n++
			}
			if n != min(most, len(rest)) {
				t.Error(i, most, n)
			}
		}
	}
	few := made(t, "\x82a")
	got := ""
	for at, c := range few.Each(0) {
		for at2, c2 := range few.Each(at) {
			got += string(rune('0'+at)) + string(c) + string(rune('0'+at2)) + string(c2) + " "
		}
	}
	if got != "0\ufffd0\ufffd 0\ufffd1a 1a1a " {
		t.Errorf("%q", got)
	}
	for _, at := range []int{-1, 2, 3, 4, 10, len(s), len(s) + 1} {
		for place, c := range r.Each(at) {
			t.Fatal(at, place, c)
		}
	}
}

// TestP20_5Never is that what is gone over is never nil, on a nil rope either.
func TestP20_5Never(t *testing.T) {
	for _, r := range []*rope.Rope{nil, made(t, ""), made(t, "a")} {
		for _, at := range append([]int{0, 1}, far...) {
			if r.Pieces() == nil || r.Each(at) == nil {
				t.Error(at)
			}
		}
	}
}

// TestP20_5Equal has texts that differ in one place, and ropes of one text that were made in other ways.
func TestP20_5Equal(t *testing.T) {
	source := rand.New(rand.NewSource(205))
	for range 60 {
		s := someText(source, 700)
		a, b := made(t, s), bytewise(t, s, source.Intn(2) == 0)
		if !rope.Equal(a, b) || !rope.Equal(b, a) || !rope.Equal(a, a) {
			t.Fatalf("%.300q is not equal", s)
		}
		if s == "" {
			continue
		}
		for range 20 {
			other := []byte(s)
			other[source.Intn(len(s))] ^= byte(1 << source.Intn(8))
			c := made(t, string(other))
			if rope.Equal(b, c) || rope.Equal(c, b) {
				t.Fatalf("%.300q is equal to %.300q", s, other)
			}
		}
		for _, c := range []string{s[1:], s[:len(s)-1], s + "\x00", ""} {
			if rope.Equal(b, made(t, c)) || rope.Equal(made(t, c), b) {
				t.Fatalf("%.300q is equal to %.300q", s, c)
			}
		}
	}
}

// TestP20_5EqualLast has texts that differ in each place, pieces of other lengths on both sides.
func TestP20_5EqualLast(t *testing.T) {
	s := strings.Repeat("ab", 500)
	a := bytewise(t, s, true)
	for i := range len(s) {
		b := joined(t, made(t, s[:i]+"x"), made(t, s[i+1:]))
		if rope.Equal(a, b) || rope.Equal(b, a) {
			t.Fatal(i)
		}
	}
}

// TestP20_6 is that no way to make ropes makes them deep.
func TestP20_6(t *testing.T) {
	source := rand.New(rand.NewSource(206))
	for _, way := range []func(*rope.Rope, int) (*rope.Rope, api.Errno){
		func(r *rope.Rope, i int) (*rope.Rope, api.Errno) { return r.Insert(r.Len(), "\xe2") },
		func(r *rope.Rope, i int) (*rope.Rope, api.Errno) { return r.Insert(0, "a") },
		func(r *rope.Rope, i int) (*rope.Rope, api.Errno) { return r.Insert(r.Len()/2, "\u20ac") },
		func(r *rope.Rope, i int) (*rope.Rope, api.Errno) { return r.Insert(source.Intn(r.Len()+1), "ab") },
		func(r *rope.Rope, i int) (*rope.Rope, api.Errno) {
			return rope.Join(made(t, strings.Repeat("x", 200)), r)
		},
		func(r *rope.Rope, i int) (*rope.Rope, api.Errno) {
			return rope.Join(r, made(t, strings.Repeat("x", 200)))
		},
		func(r *rope.Rope, i int) (*rope.Rope, api.Errno) {
			return r.Insert(min(r.Len(), 1), strings.Repeat("y", i%300))
		},
	} {
		var r *rope.Rope
		for i := range 3000 {
			var e api.Errno
			if r, e = way(r, i); e != api.OK {
				t.Fatal(e)
			}
			heldDepth(t, r)
		}
		for r.Len() > 0 {
			at := source.Intn(r.Len())
			r, _ = r.Delete(at, min(at+1+source.Intn(200), r.Len()))
			heldDepth(t, r)
		}
	}
}

// TestP20_6Slices has the shortest slices of the longest texts, and joins of what is long and what is short.
func TestP20_6Slices(t *testing.T) {
	source := rand.New(rand.NewSource(2061))
	r := made(t, strings.Repeat("a\u00e9\n", api.MaxRope/4))
	heldDepth(t, r)
	for range 3000 {
		from := source.Intn(r.Len())
		long := 1 << source.Intn(20)
		x, e := r.Slice(from, min(from+long, r.Len()))
		if e != api.OK {
			t.Fatal(e)
		}
		heldDepth(t, x)
		y, e := r.Slice(0, min(from/(1+source.Intn(1000)), api.MaxRope-x.Len()))
		if e != api.OK {
			t.Fatal(e)
		}
		heldDepth(t, y)
		heldDepth(t, joined(t, x, y))
		heldDepth(t, joined(t, y, x))
	}
	if d := made(t, "").Depth(); d < 0 || d > 2 {
		t.Error(d)
	}
	var none *rope.Rope
	if d := none.Depth(); d < 0 || d > 2 {
		t.Error(d)
	}
}

// TestP20_6Cheap is that a long text costs little: each of so many steps over the whole would take hours.
func TestP20_6Cheap(t *testing.T) {
	source := rand.New(rand.NewSource(2062))
	r := made(t, strings.Repeat("a\U0001f600\nb", api.MaxRope/16))
	for range 30000 {
		at := source.Intn(r.Len())
		x, e := r.Insert(at, "\xe2\x82\n")
		if e != api.OK {
			t.Fatal(e)
		}
		n := x.RuneOf(at)
		if place, ok := x.AtRune(n); !ok || place > at || place < at-3 {
			t.Fatal(at, n, place, ok)
		}
		if r, e = x.Delete(at+1, min(at+4, x.Len())); e != api.OK {
			t.Fatal(e)
		}
	}
}
