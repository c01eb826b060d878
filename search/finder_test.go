package search_test

import (
	"math/rand"
	"slices"
	"strings"
	"testing"

	"kerf/api"
	"kerf/search"
)

// finderOf is a new finder for t.
func finderOf(t *testing.T, u string) *search.Finder {
	t.Helper()
	x, e := search.New(u)
	if e != api.OK || x == nil {
		t.Fatalf("New(%q): %v", u, e)
	}
	return x
}

func TestP22_5New(t *testing.T) {
	for _, u := range []string{"", strings.Repeat("a", api.MaxNeedle+1), strings.Repeat("\xff", 2*api.MaxNeedle)} {
		if x, e := search.New(u); x != nil || e != api.ErrNeedle {
			t.Error(len(u), x, e)
		}
	}
	x := finderOf(t, strings.Repeat("a", api.MaxNeedle))
	if l := x.Write([]byte(strings.Repeat("a", api.MaxNeedle-1))); len(l) > 0 {
		t.Error(l)
	}
	if l := x.Write([]byte("aa")); !slices.Equal(l, []int{0, 1}) {
		t.Error(l)
	}
}

func TestP22_5(t *testing.T) {
	type step struct {
		write string
		want  []int
		held  int
	}
	for _, x := range []struct {
		t      string
		steps  []step
		closed []int
	}{
		{"\xe2\x82", []step{{"\xe2\x82", nil, 2}, {"\xac", nil, 0}, {"\xe2\x82x", []int{3}, 0}, {"\xe2\x82", nil, 2}}, []int{6}},
		{"aa", []step{{"a", nil, 0}, {"", nil, 0}, {"a", []int{0}, 0}, {"aa", []int{1, 2}, 0}}, nil},
		{"aba", []step{{"ab", nil, 0}, {"aba", []int{0, 2}, 0}, {"ba\xf0", []int{4}, 1}, {"\x9f", nil, 2}, {"\x98", nil, 3}, {"aba", []int{10}, 0}}, nil},
		{"\x9f", []step{{"\xf0\x9f", nil, 2}, {"\x98", nil, 3}, {"\xf0", []int{1}, 1}, {"\x9f", nil, 2}, {"\x98\x80\x9f", []int{7}, 0}}, nil},
		{"\xf0\x9f", []step{{"\xf0", nil, 1}, {"\x9f", nil, 2}, {"\x98", nil, 3}}, []int{0}},
		{"\x98", []step{{"\xf0\x9f\x98", nil, 3}}, []int{2}},
		{"\u20ac", []step{{"\xe2", nil, 1}, {"\x82", nil, 2}, {"\xac\xe2\x82\xac\xe2", []int{0, 3}, 1}, {"\x82", nil, 2}}, nil},
		{"a\xe2", []step{{"a\xe2", nil, 1}, {"\x82", nil, 2}, {"a", []int{0}, 0}}, nil},
		{"a", []step{{"xa\xe2", []int{1}, 1}}, nil},
	} {
		f := finderOf(t, x.t)
		for range 2 { // closed, it is as new
			if f.Held() != 0 {
				t.Errorf("%q: held %d at first", x.t, f.Held())
			}
			for i, s := range x.steps {
				if got := f.Write([]byte(s.write)); !slices.Equal(got, s.want) || f.Held() != s.held {
					t.Errorf("%q, step %d: %v, held %d", x.t, i, got, f.Held())
				}
			}
			if got := f.Close(); !slices.Equal(got, x.closed) || f.Held() != 0 {
				t.Errorf("%q closed: %v, held %d", x.t, got, f.Held())
			}
			if got := f.Close(); len(got) > 0 {
				t.Errorf("%q closed again: %v", x.t, got)
			}
		}
	}
}

func TestP22_5Nil(t *testing.T) {
	var x *search.Finder
	if x.Write(nil) != nil || x.Write([]byte("a")) != nil || x.Close() != nil || x.Held() != 0 {
		t.Error("nil")
	}
}

// checkFinder writes a text in these pieces, twice, and holds what is told against the plain reading.
func checkFinder(t *testing.T, f *search.Finder, u string, pieces []string) {
	t.Helper()
	w, told := "", 0
	for _, piece := range pieces {
		w += piece
		known := sure(w, u)
		bytes := []byte(piece)
		got := f.Write(bytes)
		if !slices.Equal(got, known[told:]) || f.Held() != held(w) {
			t.Fatalf("%q in %q: %v, want %v, held %d", u, pieces, got, known[told:], f.Held())
		}
		told = len(known)
		clear(bytes) // not kept
	}
	every := plainOf(w).every(u, api.Find{})
	var left []int
	for _, m := range every[told:] {
		left = append(left, m.From)
	}
	if got := f.Close(); !slices.Equal(got, left) {
		t.Fatalf("%q in %q closed: %v, want %v", u, pieces, got, left)
	}
}

// cuts goes over all ways to cut a text into pieces.
func cuts(s string) func(func([]string) bool) {
	return func(yield func([]string) bool) {
		for way := range 1 << max(0, len(s)-1) {
			var l []string
			from := 0
			for at := 1; at < len(s); at++ {
				if way>>(at-1)&1 == 1 {
					l = append(l, s[from:at])
					from = at
				}
			}
			if !yield(append(l, s[from:])) {
				return
			}
		}
	}
}

func TestP22_5Short(t *testing.T) {
	for _, of := range [][]string{{"a", "b"}, {"\xe2", "\x82", "\xac", "a"}, {"\u20ac", "\x82", "\xac"}, {"\xf0\x9f", "\x98\x80", "x"}} {
		for s := range rows(3, of...) {
			for _, u := range needles(s) {
				if u == "" {
					continue
				}
				f := finderOf(t, u)
				for pieces := range cuts(s) {
					checkFinder(t, f, u, pieces)
				}
			}
		}
	}
}

// The matches that are told stay, whatever comes; those that are not told are lost by something that may come.
func TestP22_5Sure(t *testing.T) {
	comes := []string{"", "a", "\x80", "\x82", "\xac", "\x82\xac", "\x9f", "\x9f\x98\x80", "\x98\x80", "\xe2", "\xc2\x80"}
	for _, of := range [][]string{{"\xe2", "\x82", "\xac"}, {"\xf0", "\x9f", "\x98", "a"}, {"\xc3", "\xa9", "\xe2\x82"}} {
		for s := range rows(4, of...) {
			for from := range len(s) {
				for to := from + 1; to <= len(s); to++ {
					u := s[from:to]
					told := finderOf(t, u).Write([]byte(s))
					for _, m := range search.Every(s, u, api.Find{}) {
						stays := true
						for _, c := range comes {
							stays = stays && search.Is(s+c, u, api.Find{}, m.From, m.To)
						}
						if stays != slices.Contains(told, m.From) {
							t.Fatalf("%q in %q: told %v, %v", u, s, told, m)
						}
					}
				}
			}
		}
	}
}

func TestP22_9(t *testing.T) {
	r := rand.New(rand.NewSource(229))
	for range 6000 {
		s := someText(r, 24)
		u := someNeedle(r, s)
		if u == "" {
			continue
		}
		f := finderOf(t, u)
		for range 2 {
			var pieces []string
			for at := 0; at < len(s); {
				to := min(len(s), at+r.Intn(5))
				pieces = append(pieces, s[at:to])
				at = to
			}
			checkFinder(t, f, u, pieces)
		}
	}
}

// Far more is written than is kept, in pieces as small as can be and as great as can be.
func TestP22_9Long(t *testing.T) {
	s := strings.Repeat("ab\xe2\x82\u20acaab", 20000)
	u := "\xe2\x82\u20acaabab\xe2"
	var want []int
	for _, m := range search.Every(s, u, api.Find{}) {
		want = append(want, m.From)
	}
	if len(want) != 19999 {
		t.Fatal(len(want))
	}
	quick(t, "pieces", func() {
		for _, long := range []int{1, 7, 4096, len(s)} {
			f := finderOf(t, u)
			var got []int
			for from := 0; from < len(s); from += long {
				got = append(got, f.Write([]byte(s[from:min(len(s), from+long)]))...)
			}
			got = append(got, f.Close()...)
			if !slices.Equal(got, want) {
				t.Errorf("by %d: %d of them", long, len(got))
			}
		}
	})
	quick(t, "rows", func() {
		f := finderOf(t, strings.Repeat("a", api.MaxNeedle))
		if n := len(f.Write([]byte(strings.Repeat("a", 1<<20)))); n != 1<<20-api.MaxNeedle+1 {
			t.Error(n)
		}
	})
}
