package edit_test

import (
	"math/rand"
	"slices"
	"testing"

	"kerf/api"
	"kerf/cursor"
	"kerf/edit"
	"kerf/grapheme"
	"kerf/utf"
)

// apply is Apply of what fits.
func apply(t *testing.T, s string, c api.Change) string {
	t.Helper()
	made, e := edit.Apply(s, c)
	if e != api.OK {
		t.Fatalf("Apply(%q, %v): %d", s, c, e)
	}
	return made
}

// compose is Compose of what fits.
func compose(t *testing.T, a, b api.Change) api.Change {
	t.Helper()
	c, e := edit.Compose(a, b)
	if e != api.OK {
		t.Fatalf("Compose(%v, %v): %d", a, b, e)
	}
	return c
}

// TestP23_12 is that what was done can be taken back, and that taken back it is done again.
func TestP23_12(t *testing.T) {
	r := rand.New(rand.NewSource(2312))
	for range 20000 {
		s := someText(r, 8)
		c := someChange(r, len(s))
		u := apply(t, s, c)
		v, e := edit.Invert(s, c)
		if back := apply(t, u, v); e != api.OK || back != s {
			t.Fatalf("%q by %v: %q, and back by %v: %q", s, c, u, v, back)
		}
		norm, _ := edit.Norm(c)
		if again, e := edit.Invert(u, v); e != api.OK || !alike(again, norm) {
			t.Fatalf("%q by %v: back by %v, and again by %v", s, c, v, again)
		}
	}
}

// TestP23_13 is that one change does what two, or three, do.
func TestP23_13(t *testing.T) {
	r := rand.New(rand.NewSource(2313))
	for range 20000 {
		s := someText(r, 6)
		a := someChange(r, len(s))
		u := apply(t, s, a)
		b := someChange(r, len(u))
		v := apply(t, u, b)
		if got := apply(t, s, compose(t, a, b)); got != v {
			t.Fatalf("%q by %v and %v: %q, not %q", s, a, b, got, v)
		}
		c := someChange(r, len(v))
		if x, y := compose(t, compose(t, a, b), c), compose(t, a, compose(t, b, c)); !alike(x, y) {
			t.Fatalf("%v, %v, %v: %v and %v", a, b, c, x, y)
		}
	}
}

// TestP23_14 is that both orders of two changes come to the same, whichever of them is first.
func TestP23_14(t *testing.T) {
	r := rand.New(rand.NewSource(2314))
	for i := range 20000 {
		s := someText(r, 6)
		a, b := someChange(r, len(s)), someChange(r, len(s))
		if i%2 == 0 {
			a, b = b, a
		}
		x, e := edit.Transform(a, b, true)
		y, f := edit.Transform(b, a, false)
		got, want := apply(t, apply(t, s, b), x), apply(t, apply(t, s, a), y)
		if e != api.OK || f != api.OK || got != want {
			t.Fatalf("%q by %v and %v: %q and %q", s, a, b, got, want)
		}
		if c, d := compose(t, b, x), compose(t, a, y); !alike(c, d) {
			t.Fatalf("%v and %v: %v and %v", a, b, c, d)
		}
	}
}

// TestP23_15 is that places keep their order when they are carried along, and stay within the text.
func TestP23_15(t *testing.T) {
	r := rand.New(rand.NewSource(2315))
	for range 20000 {
		c := someChange(r, r.Intn(12))
		for _, stay := range []bool{true, false} {
			last := 0
			for at := 0; at <= c.Len; at++ {
				to := edit.Move(c, at, stay)
				if to < last || to > edit.Long(c) {
					t.Fatalf("Move(%v, %d, %v): %d behind %d", c, at, stay, to, last)
				}
				if last = to; edit.Move(c, at, true) > edit.Move(c, at, false) {
					t.Fatalf("Move(%v, %d)", c, at)
				}
			}
		}
	}
}

// TestP23_15Bytes is that a place is carried along with the bytes that are kept beside it.
func TestP23_15Bytes(t *testing.T) {
	r := rand.New(rand.NewSource(23151))
	for range 10000 {
		s := someText(r, 6)
		c := someChange(r, len(s))
		u := apply(t, s, c)
		norm, _ := edit.Norm(c)
		for at := range len(s) {
			if !keeps(norm, at) {
				continue
			}
			if to := edit.Move(c, at, false); u[to] != s[at] {
				t.Fatalf("%q by %v to %q: %d to %d", s, c, u, at, to)
			}
			if to := edit.Move(c, at+1, true); u[to-1] != s[at] {
				t.Fatalf("%q by %v to %q: %d to %d", s, c, u, at+1, to)
			}
		}
	}
}

// TestP23_16 is that what Diff tells makes the one text of the other, and cuts no rune.
func TestP23_16(t *testing.T) {
	r := rand.New(rand.NewSource(2316))
	valid := 0
	for i := range 30000 {
		s := someText(r, 8)
		u := apply(t, s, someChange(r, len(s)))
		if i%2 == 0 {
			s, u = utf.Clean(s), utf.Clean(u)
		}
		c := edit.Diff(s, u)
		if got := apply(t, s, c); got != u || len(c.Edits) > 1 {
			t.Fatalf("Diff(%q, %q): %v", s, u, c)
		}
		if norm, _ := edit.Norm(c); !alike(norm, c) {
			t.Fatalf("Diff(%q, %q): %v", s, u, c)
		}
		if len(c.Edits) == 0 || !utf.Valid(s) || !utf.Valid(u) {
			continue
		}
		if valid++; !utf.Valid(c.Edits[0].Text) {
			t.Fatalf("Diff(%q, %q): %v", s, u, c)
		}
	}
	if valid < 5000 {
		t.Error(valid)
	}
}

// TestP23_17 is that each node's text stays, and that what Go tells leads there.
func TestP23_17(t *testing.T) {
	r := rand.New(rand.NewSource(2317))
	for range 300 {
		s := someText(r, 6)
		x := edit.NewTree(s)
		texts := []string{s}
		for range 60 {
			switch was := x.Text(); r.Intn(5) {
			case 0, 1:
				c := someChange(r, len(was))
				if n, e := x.Do(c); n != len(texts) || e != api.OK || x.Text() != apply(t, was, c) {
					t.Fatalf("Do(%v) of %q: %q, %d, %d", c, was, x.Text(), n, e)
				}
				texts = append(texts, x.Text())
			case 2:
				x.Undo()
			case 3:
				x.Redo(r.Intn(3))
			default:
				node := r.Intn(len(texts))
				c, e := x.Go(node)
				if norm, _ := edit.Norm(c); e != api.OK || apply(t, was, c) != texts[node] || x.Node() != node || !alike(norm, c) {
					t.Fatalf("Go(%d) from %q: %v, %d", node, was, c, e)
				}
			}
			if x.Text() != texts[x.Node()] || x.Len() != len(texts) {
				t.Fatalf("node %d: %q, not %q", x.Node(), x.Text(), texts[x.Node()])
			}
		}
		for node, text := range texts {
			if x.Go(node); x.Text() != text {
				t.Fatalf("node %d: %q, not %q", node, x.Text(), text)
			}
		}
	}
}

// TestP7 is that a cursor which a change carries along, and which is taken to a bound, stands at a bound of letters of what the text became, and so does one that goes on from there.
func TestP7(t *testing.T) {
	r := rand.New(rand.NewSource(7))
	taken := 0
	for range 30000 {
		s := someText(r, 8)
		c := someChange(r, len(s))
		if r.Intn(3) == 0 {
			c = edit.Diff(s, someText(r, 8))
		}
		u := apply(t, s, c)
		bounds := slices.Concat([]int{0, len(u)}, grapheme.Bounds(u))
		for _, stay := range []bool{true, false} {
			at := edit.Move(c, cursor.Snap(s, r.Intn(len(s)+5)-2), stay)
			to := cursor.Snap(u, at)
			if at < 0 || at > len(u) || !slices.Contains(bounds, to) || to > at || !utf.Is(u, to) {
				t.Fatalf("%q by %v to %q: %d to %d", s, c, u, at, to)
			}
			if to < at {
				taken++
			}
			for kind := api.ToLetter; kind <= api.ToLast; kind++ {
				if on := cursor.Step(u, at, kind, r.Intn(5)-2); !slices.Contains(bounds, on) {
					t.Fatalf("%q by %v to %q: %d on to %d", s, c, u, at, on)
				}
			}
		}
	}
	if taken < 300 {
		t.Error(taken)
	}
}

// TestWhole are the document's examples that are about changes.
func TestWhole(t *testing.T) {
	c := changeOf(3, api.Edit{From: 1, To: 1, Text: "e\u0301"})
	if at := cursor.Snap(apply(t, "xab", c), edit.Move(c, 2, false)); at != 5 {
		t.Error(at)
	}
	x, y := changeOf(2, api.Edit{Text: "x"}), changeOf(2, api.Edit{Text: "y"})
	for _, first := range []bool{true, false} {
		a, _ := edit.Transform(x, y, first)
		b, _ := edit.Transform(y, x, !first)
		want := "xyab"
		if !first {
			want = "yxab"
		}
		if s, u := apply(t, apply(t, "ab", y), a), apply(t, apply(t, "ab", x), b); s != want || u != want {
			t.Error(s, u)
		}
	}
}
