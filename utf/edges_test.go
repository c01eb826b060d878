package utf_test

import (
	"math"
	"slices"
	"testing"

	"kerf/utf"
)

// around are the places from ahead of a text to past it, and the farthest there are.
func around(s string) []int {
	l := []int{math.MinInt, math.MinInt + 1, math.MinInt32}
	for at := -5; at <= len(s)+5; at++ {
		l = append(l, at)
	}
	return append(l, math.MaxInt32, math.MaxInt-1, math.MaxInt)
}

func checkEdges(t *testing.T, s string) {
	t.Helper()
	edges := edgesOf(s)
	for _, at := range around(s) {
		back, on := 0, len(s)
		for _, e := range edges {
			if e < at {
				back = e
			}
		}
		for _, e := range slices.Backward(edges) {
			if e > at {
				on = e
			}
		}
		if got := utf.Is(s, at); got != slices.Contains(edges, at) {
			t.Errorf("Is(%q, %d): %v", s, at, got)
		}
		if got := utf.Back(s, at); got != back {
			t.Errorf("Back(%q, %d): %d, want %d", s, at, got, back)
		}
		if got := utf.On(s, at); got != on {
			t.Errorf("On(%q, %d): %d, want %d", s, at, got, on)
		}
	}
}

func TestP1_5(t *testing.T) {
	for _, s := range texts() {
		checkEdges(t, s)
		if t.Failed() {
			return
		}
	}
	// Long sequences with faults of their own kind behind and ahead.
	for _, q := range []string{"\u00e9", "\u20ac", "\U0001f600"} {
		for cut := range len(q) {
			checkEdges(t, q[:cut]+q)
			checkEdges(t, q+q[cut:])
			checkEdges(t, q[cut:]+"\x80\x80\x80\x80"+q[:cut])
		}
	}
}

func TestP1_5Empty(t *testing.T) {
	if !utf.Is("", 0) || utf.Is("", 1) || utf.Is("", -1) {
		t.Error("Is of nothing")
	}
	for _, at := range []int{math.MinInt, -1, 0, 1, math.MaxInt} {
		if utf.Back("", at) != 0 || utf.On("", at) != 0 {
			t.Errorf("at %d: Back %d, On %d", at, utf.Back("", at), utf.On("", at))
		}
	}
}

func TestP1_5Examples(t *testing.T) {
	s := "\xc3\xa9x"
	for _, x := range []struct{ at, want int }{{2, 0}, {1, 0}, {-5, 0}, {0, 0}, {3, 2}, {4, 3}, {99, 3}} {
		if got := utf.Back(s, x.at); got != x.want {
			t.Errorf("Back(%d): %d, want %d", x.at, got, x.want)
		}
	}
	for _, x := range []struct{ at, want int }{{0, 2}, {1, 2}, {2, 3}, {9, 3}, {-1, 0}, {-9, 0}} {
		if got := utf.On(s, x.at); got != x.want {
			t.Errorf("On(%d): %d, want %d", x.at, got, x.want)
		}
	}
	if utf.Is(s, 1) {
		t.Error("Is(1)")
	}
}

// edgesBy gathers the edges of s by what Is says.
func edgesBy(s string) []int {
	var l []int
	for at := -1; at <= len(s)+1; at++ {
		if utf.Is(s, at) {
			l = append(l, at)
		}
	}
	return l
}

func TestP1_10(t *testing.T) {
	for _, s := range texts() {
		edges, all := edgesBy(s), utf.Runes(s)
		for _, cut := range edges {
			a, b := s[:cut], s[cut:]
			if got := append(utf.Runes(a), utf.Runes(b)...); !slices.Equal(got, all) {
				t.Fatalf("%q cut at %d: %x, whole %x", s, cut, got, all)
			}
			joined := edgesBy(a)
			for _, e := range edgesBy(b)[1:] { // the first is the last of the text ahead
				joined = append(joined, e+len(a))
			}
			if !slices.Equal(joined, edges) {
				t.Fatalf("%q cut at %d: edges %d, whole %d", s, cut, joined, edges)
			}
		}
	}
}

// Going on by On, and back by Back, one meets every edge.
func TestP1_5Steps(t *testing.T) {
	for _, s := range texts() {
		edges := edgesOf(s)
		on := []int{0}
		for at := 0; at < len(s); {
			next := utf.On(s, at)
			if next <= at {
				t.Fatalf("On(%q, %d): %d", s, at, next)
			}
			at = next
			on = append(on, at)
		}
		back := []int{len(s)}
		for at := len(s); at > 0; {
			next := utf.Back(s, at)
			if next >= at {
				t.Fatalf("Back(%q, %d): %d", s, at, next)
			}
			at = next
			back = append(back, at)
		}
		slices.Reverse(back)
		if !slices.Equal(on, edges) || !slices.Equal(back, edges) {
			t.Fatalf("%q: on %d, back %d, want %d", s, on, back, edges)
		}
	}
}
