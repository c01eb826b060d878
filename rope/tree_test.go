package rope

import (
	"math/rand"
	"strings"
	"testing"

	"kerf/api"
	"kerf/utf"
)

// The tests of this file look into the trees: what a rope tells hangs on how they are built, and what it costs, too.

// sound holds a node, that begins at from in the text of all, to what is said of nodes.
func sound(t *testing.T, n node, all string, from int) {
	t.Helper()
	to := from + long(n)
	if !utf.Is(all, from) || !utf.Is(all, to) {
		t.Fatalf("%.300q: %d to %d is not between edges", all, from, to)
	}
	if n.total() != counted(all[from:to]) {
		t.Fatalf("%.300q: %d to %d counts %v", all, from, to, n.total())
	}
	switch x := n.(type) {
	case *leaf:
		if x.text != all[from:to] || x.text == "" && all != "" || len(x.text) > api.MaxPiece || x.height() != 0 {
			t.Fatalf("%.300q: a leaf of %q", all, x.text)
		}
	case *branch:
		a, b := x.left.height(), x.right.height()
		if a > b+1 || b > a+1 || x.height() != 1+max(a, b) {
			t.Fatalf("%.300q: heights %d and %d under %d", all, a, b, x.height())
		}
		sound(t, x.left, all, from)
		sound(t, x.right, all, from+long(x.left))
	}
}

// TestP20_6Trees has trees stay sound, whatever is done.
func TestP20_6Trees(t *testing.T) {
	source := rand.New(rand.NewSource(2063))
	parts := []string{"\xe2", "\x82", "\xac", "\xf0\x9f", "\x98", "\x80", "a", "\n", "\u00e9", "\U0001f600", "\u20ac"}
	some := func(most int) string {
		var s strings.Builder
		for range source.Intn(most) {
			s.WriteString(parts[source.Intn(len(parts))])
		}
		return s.String()
	}
	for range 60 {
		r, _ := New(some(4000))
		for range 60 {
			from := source.Intn(r.Len() + 1)
			to := from + source.Intn(r.Len()-from+1)
			switch source.Intn(6) {
			case 0:
				r, _ = r.Insert(from, some(5))
			case 1:
				r, _ = r.Insert(from, some(800))
			case 2:
				r, _ = r.Delete(from, min(to, from+5))
			case 3:
				r, _ = r.Delete(from, min(to, from+500))
			case 4:
				a, b, _ := r.Cut(from)
				sound(t, a.top(), a.String(), 0)
				sound(t, b.top(), b.String(), 0)
				r, _ = Join(b, a)
			case 5:
				slice, _ := r.Slice(from, to)
				sound(t, slice.top(), slice.String(), 0)
				r, _ = Join(slice, r)
			}
			sound(t, r.top(), r.String(), 0)
		}
	}
}

// TestP20_6Joins has trees of all heights side by side: the lower one goes into the higher one from either side.
func TestP20_6Joins(t *testing.T) {
	var trees []node
	for long := 1; long <= 1<<14; long = long*3/2 + 1 {
		trees = append(trees, grown(strings.Repeat("a\u00e9\n", long)))
	}
	for _, a := range trees {
		for _, b := range trees {
			n := joined(a, b)
			sound(t, n, whole(a)+whole(b), 0)
			if high := max(a.height(), b.height()); n.height() < high || n.height() > high+1 {
				t.Error(a.height(), b.height(), n.height())
			}
		}
	}
}

// TestP20_6Crumbs is that short insertions do not leave short leaves.
func TestP20_6Crumbs(t *testing.T) {
	source := rand.New(rand.NewSource(2064))
	for _, way := range []func(long int) int{
		func(long int) int { return 0 },
		func(long int) int { return long },
		func(long int) int { return long / 2 },
		func(long int) int { return source.Intn(long + 1) },
	} {
		var r *Rope
		for range 20000 {
			r, _ = r.Insert(way(r.Len()), "x")
		}
		n := 0
		for range r.Pieces() {
			n++
		}
		if most := r.Len() / (api.MaxPiece / 4); n > most {
			t.Errorf("%d pieces, and not %d at most", n, most)
		}
	}
}
