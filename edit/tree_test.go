package edit_test

import (
	"math"
	"math/rand"
	"slices"
	"strings"
	"testing"

	"kerf/api"
	"kerf/edit"
)

// stands holds what a tree tells against what is so.
func stands(t *testing.T, x *edit.Tree, text string, node, long int, kids ...int) {
	t.Helper()
	if x.Text() != text || x.Node() != node || x.Len() != long || !slices.Equal(x.Kids(), kids) {
		t.Fatalf("%q, node %d of %d, kids %v; not %q, %d of %d, %v", x.Text(), x.Node(), x.Len(), x.Kids(), text, node, long, kids)
	}
}

func TestP23_9(t *testing.T) {
	for _, s := range []string{"", "ab", "\xff\xe2\x82", "e\u0301"} {
		x := edit.NewTree(s)
		stands(t, x, s, 0, 1)
		if x.Undo() || x.Redo(0) {
			t.Error(s)
		}
		stands(t, x, s, 0, 1)
	}
	a, b := edit.NewTree("a"), edit.NewTree("a")
	a.Do(changeOf(1, api.Edit{Text: "x"}))
	stands(t, a, "xa", 1, 2)
	stands(t, b, "a", 0, 1)
}

func TestP23_10(t *testing.T) {
	x := edit.NewTree("ab")
	do := func(want int, c api.Change) {
		t.Helper()
		if n, e := x.Do(c); n != want || e != api.OK {
			t.Fatalf("Do(%v): %d, %d", c, n, e)
		}
	}
	do(1, changeOf(2, api.Edit{From: 1, To: 2, Text: "c"}))
	stands(t, x, "ac", 1, 2)
	do(2, changeOf(2)) // of no edits: a node of its own
	stands(t, x, "ac", 2, 3)
	do(3, changeOf(2, api.Edit{Text: "\xff"}, api.Edit{Text: "\xfe"}))
	stands(t, x, "\xff\xfeac", 3, 4)
	if !x.Undo() || !x.Undo() {
		t.Fatal("Undo")
	}
	stands(t, x, "ac", 1, 4, 2)
	do(4, changeOf(2, api.Edit{From: 0, To: 2}))
	stands(t, x, "", 4, 5)
	if !x.Undo() {
		t.Fatal("Undo")
	}
	stands(t, x, "ac", 1, 5, 2, 4)
	for _, i := range []int{-1, 2, 3, math.MinInt, math.MaxInt} {
		if x.Redo(i) {
			t.Fatal(i)
		}
		stands(t, x, "ac", 1, 5, 2, 4)
	}
	if !x.Redo(1) {
		t.Fatal("Redo")
	}
	stands(t, x, "", 4, 5)
	if x.Redo(0) || !x.Undo() || !x.Redo(0) {
		t.Fatal("Redo")
	}
	stands(t, x, "ac", 2, 5, 3)
	if !x.Undo() || !x.Undo() || x.Undo() {
		t.Fatal("Undo")
	}
	stands(t, x, "ab", 0, 5, 1)
	for _, c := range []api.Change{{}, changeOf(1), changeOf(3)} {
		if n, e := x.Do(c); n != 0 || e != api.ErrText {
			t.Fatalf("Do(%v): %d, %d", c, n, e)
		}
	}
	if n, e := x.Do(changeOf(3, api.Edit{From: 2, To: 1})); n != 0 || e != api.ErrChange {
		t.Fatal(n, e)
	}
	stands(t, x, "ab", 0, 5, 1)
}

// TestP23_10Full is a tree of as many nodes as can be.
func TestP23_10Full(t *testing.T) {
	x := edit.NewTree("")
	for i := 1; i < api.MaxNodesTree; i++ {
		if n, e := x.Do(changeOf(i-1, api.Edit{From: i - 1, To: i - 1, Text: "x"})); n != i || e != api.OK {
			t.Fatal(i, n, e)
		}
		if i%2 == 0 {
			x.Undo()
			x.Redo(0)
		}
	}
	s := strings.Repeat("x", api.MaxNodesTree-1)
	stands(t, x, s, api.MaxNodesTree-1, api.MaxNodesTree)
	for _, c := range []struct {
		c api.Change
		e api.Errno
	}{{changeOf(len(s)), api.ErrFull}, {changeOf(1), api.ErrText}, {changeOf(-1), api.ErrChange}} {
		if n, e := x.Do(c.c); n != 0 || e != c.e {
			t.Error(c, n, e)
		}
	}
	stands(t, x, s, api.MaxNodesTree-1, api.MaxNodesTree)
	if !x.Undo() {
		t.Error("Undo")
	}
	if n, e := x.Do(changeOf(len(s) - 1)); n != 0 || e != api.ErrFull {
		t.Error(n, e)
	}
	stands(t, x, s[1:], api.MaxNodesTree-2, api.MaxNodesTree, api.MaxNodesTree-1)
	quick(t, "Go", func() {
		if c, e := x.Go(0); e != api.OK || !alike(c, changeOf(len(s)-1, api.Edit{From: 0, To: len(s) - 1})) {
			t.Error(c, e)
		}
		stands(t, x, "", 0, api.MaxNodesTree, 1)
		if c, e := x.Go(api.MaxNodesTree - 1); e != api.OK || !alike(c, changeOf(0, api.Edit{Text: s})) {
			t.Error(c, e)
		}
	})
	stands(t, x, s, api.MaxNodesTree-1, api.MaxNodesTree)
}

func TestP23_11(t *testing.T) {
	x := edit.NewTree("ab")
	x.Do(changeOf(2, api.Edit{From: 1, To: 2, Text: "c"})) // ac
	x.Undo()
	x.Do(changeOf(2, api.Edit{Text: "z"}))                                                                          // zab
	x.Do(changeOf(3, api.Edit{From: 1, To: 1, Text: "\u00e9"}, api.Edit{From: 1, To: 1}, api.Edit{From: 2, To: 3})) // z\u00e9a
	for _, y := range []struct {
		node int
		want api.Change
		text string
		kids []int
	}{
		{3, changeOf(4), "z\u00e9a", nil},
		{1, changeOf(4, api.Edit{From: 0, To: 3}, api.Edit{From: 4, To: 4, Text: "c"}), "ac", nil},
		{2, changeOf(2, api.Edit{Text: "z"}, api.Edit{From: 1, To: 2, Text: "b"}), "zab", []int{3}},
		{0, changeOf(3, api.Edit{From: 0, To: 1}), "ab", []int{1, 2}},
		{0, changeOf(2), "ab", []int{1, 2}},
		{3, changeOf(2, api.Edit{Text: "z\u00e9"}, api.Edit{From: 1, To: 2}), "z\u00e9a", nil},
		{0, changeOf(4, api.Edit{From: 0, To: 3}, api.Edit{From: 4, To: 4, Text: "b"}), "ab", []int{1, 2}},
	} {
		if c, e := x.Go(y.node); e != api.OK || !alike(c, y.want) {
			t.Fatalf("Go(%d): %v, %d", y.node, c, e)
		}
		stands(t, x, y.text, y.node, 4, y.kids...)
	}
	for _, n := range []int{-1, 4, 5, math.MinInt, math.MaxInt} {
		if c, e := x.Go(n); e != api.ErrNode || !zero(c) {
			t.Fatalf("Go(%d): %v, %d", n, c, e)
		}
		stands(t, x, "ab", 0, 4, 1, 2)
	}
}

// TestP23_11Same is that what is laid in anew is not what was there, though it is the same: Go tells what is kept on the way.
func TestP23_11Same(t *testing.T) {
	x := edit.NewTree("abc")
	x.Do(changeOf(3, api.Edit{From: 1, To: 2}))
	x.Do(changeOf(2, api.Edit{From: 1, To: 1, Text: "b"}))
	if c, e := x.Go(0); e != api.OK || !alike(c, changeOf(3, api.Edit{From: 1, To: 2, Text: "b"})) {
		t.Error(c, e)
	}
	if c, e := x.Go(2); e != api.OK || !alike(c, changeOf(3, api.Edit{From: 1, To: 2, Text: "b"})) {
		t.Error(c, e)
	}
}

func TestTreeNil(t *testing.T) {
	var x *edit.Tree
	for _, c := range []api.Change{{}, one, changeOf(-1)} {
		if n, e := x.Do(c); n != 0 || e != api.OK {
			t.Error(n, e)
		}
	}
	for _, n := range []int{-1, 0, 1} {
		if c, e := x.Go(n); !zero(c) || e != api.OK {
			t.Error(c, e)
		}
		if x.Redo(n) {
			t.Error(n)
		}
	}
	if x.Undo() || x.Text() != "" || x.Node() != 0 || len(x.Kids()) != 0 || x.Len() != 0 {
		t.Error("nil")
	}
}

// TestTreeShare is that a tree keeps nothing of what it was given, and tells nothing that it keeps.
func TestTreeShare(t *testing.T) {
	x := edit.NewTree("abcd")
	c, all := spare(one)
	was := slices.Clone(all)
	x.Do(c)
	if !slices.Equal(all, was) {
		t.Error(all)
	}
	written(c)
	x.Undo()
	x.Redo(0)
	stands(t, x, "aXcYZd", 1, 2)
	x.Undo()
	kids := x.Kids()
	kids = append(kids, 7)
	kids[0] = 9
	stands(t, x, "abcd", 0, 2, 1)
	for range 3 {
		on, _ := x.Go(1)
		stands(t, x, "aXcYZd", 1, 2)
		written(on)
		back, _ := x.Go(0)
		stands(t, x, "abcd", 0, 2, 1)
		written(back)
	}
}

// TestTreeAll goes through trees in any way, beside plain ones.
func TestTreeAll(t *testing.T) {
	r := rand.New(rand.NewSource(2310))
	for range 400 {
		s := someText(r, 5)
		x, p := edit.NewTree(s), plainTreeOf(s)
		for range 40 {
			switch r.Intn(6) {
			case 0, 1:
				c := someChange(r, len(p.texts[p.at]))
				p.do(c)
				if n, e := x.Do(c); n != p.at || e != api.OK {
					t.Fatalf("Do(%v): %d, %d", c, n, e)
				}
			case 2:
				there := p.at > 0
				if there {
					p.at = p.from[p.at]
				}
				if x.Undo() != there {
					t.Fatal("Undo", p.at)
				}
			case 3:
				i, kids := r.Intn(4)-1, p.kids()
				there := i >= 0 && i < len(kids)
				if there {
					p.at = kids[i]
				}
				if x.Redo(i) != there {
					t.Fatal("Redo", i, kids)
				}
			case 4:
				node := r.Intn(len(p.texts))
				want := p.lead(node)
				p.at = node
				if c, e := x.Go(node); e != api.OK || !alike(c, want) {
					t.Fatalf("Go(%d): %v, %d, not %v", node, c, e, want)
				}
			default:
				if n, e := x.Do(spoilt(r, someChange(r, len(p.texts[p.at])))); n != 0 || e != api.ErrChange {
					t.Fatal(n, e)
				}
				if n, e := x.Do(someChange(r, len(p.texts[p.at])+1)); n != 0 || e != api.ErrText {
					t.Fatal(n, e)
				}
			}
			stands(t, x, p.texts[p.at], p.at, len(p.texts), p.kids()...)
		}
	}
}

// TestTreeLong is a tree of long texts, of which each node makes the whole anew, and one in which each lays much in.
func TestTreeLong(t *testing.T) {
	const n = 100000
	quick(t, "long texts", func() {
		s := strings.Repeat("a", n)
		x := edit.NewTree(s)
		for range 300 {
			s = strings.Repeat(string([]byte{'a' + (s[0]-'a'+1)%26}), n)
			x.Do(changeOf(n, api.Edit{From: 0, To: n, Text: s}))
		}
		for range 5 {
			x.Go(0)
			x.Go(300)
		}
		stands(t, x, s, 300, 301)
	})
	quick(t, "laid in", func() {
		s := strings.Repeat("b", 1000)
		x := edit.NewTree("")
		for i := range 800 {
			x.Do(changeOf(1000*i, api.Edit{From: 500 * i, To: 500 * i, Text: s}))
		}
		x.Go(0)
		if c, e := x.Go(800); e != api.OK || !alike(c, changeOf(0, api.Edit{Text: strings.Repeat(s, 800)})) {
			t.Error(len(c.Edits), e)
		}
	})
}
