package places_test

import (
	"math"
	"slices"
	"strings"
	"testing"

	"kerf/api"
	"kerf/places"
)

// lines are those that Line tells.
func lines(x *places.Index) []row {
	var l []row
	for n := range x.Lines() {
		from, to, end := x.Line(n)
		l = append(l, row{from, to, end})
	}
	return l
}

// TestP17_4Examples has texts by hand: the chapter's, and that of the whole.
func TestP17_4Examples(t *testing.T) {
	for _, c := range []struct {
		s    string
		want []row
	}{
		{example, []row{{0, 7, 9}, {9, 10, 10}}},
		{"a\xe2\x82\n", []row{{0, 3, 4}, {4, 4, 4}}},
		{"", []row{{0, 0, 0}}},
		{"ab", []row{{0, 2, 2}}},
		{"\n", []row{{0, 0, 1}, {1, 1, 1}}},
		{"\n\n", []row{{0, 0, 1}, {1, 1, 2}, {2, 2, 2}}},
		{"\r\n", []row{{0, 0, 2}, {2, 2, 2}}},
		{"\n\r", []row{{0, 0, 1}, {1, 1, 2}, {2, 2, 2}}},
		{"\r\r\n\n", []row{{0, 0, 1}, {1, 1, 3}, {3, 3, 4}, {4, 4, 4}}},
		{"a\rb", []row{{0, 1, 2}, {2, 3, 3}}},
		{"a\r\u0301\nb", []row{{0, 1, 2}, {2, 4, 5}, {5, 6, 6}}},
		{"\r\x80\n", []row{{0, 0, 1}, {1, 2, 3}, {3, 3, 3}}},
		{"a\u0085\u2028b\u2029", []row{{0, 1, 3}, {3, 3, 6}, {6, 7, 10}, {10, 10, 10}}},
		{"a\vb\fc", []row{{0, 1, 2}, {2, 3, 4}, {4, 5, 5}}},
		{"a\x85b\xe2\x80c\xc2", []row{{0, 7, 7}}},                                                  // the byte 85 is no rune 85
		{"\t\x1c\x1d\x1e\x1f\x0e\u0084\u0086\u2027\u202a", []row{{0, 16, 16}}},                     // those around them
		{"\U0001f1e6\n\U0001f1e7\u2028\u0301", []row{{0, 4, 5}, {5, 9, 12}, {12, 14, 14}}},         // lines part letters
		{"\u0600\r\n\u200d\v", []row{{0, 2, 4}, {4, 7, 8}, {8, 8, 8}}},                             // and nothing holds on to their ends
		{"\u000a\u000b\u000c\u000d", []row{{0, 0, 1}, {1, 1, 2}, {2, 2, 3}, {3, 3, 4}, {4, 4, 4}}}, // one behind the other
	} {
		x := places.New(c.s)
		if got := lines(x); x.Lines() != len(c.want) || !slices.Equal(got, c.want) {
			t.Errorf("%q: %v; want %v", c.s, got, c.want)
		}
		var want []string
		for _, row := range c.want {
			want = append(want, c.s[row.from:row.to])
		}
		if got := told(x); !slices.Equal(got, want) {
			t.Errorf("%q: Each %q; want %q", c.s, got, want)
		}
	}
}

// TestP17_4Ends has each end between, ahead of and behind other text, and each behind each.
func TestP17_4Ends(t *testing.T) {
	for _, end := range ends {
		for _, ahead := range []string{"", "a", "e\u0301", "\xff", "\u0600", "\U0001f1e6"} {
			for _, behind := range []string{"", "b", "\u0301", "\x80", "\U0001f1e6", "\u200d"} {
				s := ahead + end + behind
				want := []row{{0, len(ahead), len(ahead + end)}, {len(ahead + end), len(s), len(s)}}
				if got := lines(places.New(s)); !slices.Equal(got, want) {
					t.Errorf("%q: %v; want %v", s, got, want)
				}
			}
		}
		for _, other := range ends {
			want := 3
			if end == "\r" && strings.HasPrefix(other, "\n") {
				want = 2
			}
			if got := places.New(end + other).Lines(); got != want {
				t.Errorf("%q: %d", end+other, got)
			}
		}
	}
}

// TestP17_4Wrong has rows that are none.
func TestP17_4Wrong(t *testing.T) {
	for _, s := range []string{"", "a", "a\n", example, "a\nb\r\nc"} {
		x := places.New(s)
		for _, n := range []int{math.MinInt, -2, -1, x.Lines(), x.Lines() + 1, math.MaxInt} {
			if from, to, end := x.Line(n); from != 0 || to != 0 || end != 0 {
				t.Errorf("%q: Line %d: %d, %d, %d", s, n, from, to, end)
			}
		}
		if _, _, end := x.Line(x.Lines() - 1); end != len(s) {
			t.Errorf("%q: the last line ends at %d", s, end)
		}
	}
}

// TestP17_4Left has Each left at every line, gone over again, and nested.
func TestP17_4Left(t *testing.T) {
	want := []string{"a", "", "b\u0301", "\xff", ""}
	x := places.New(strings.Join(want, "\r\n"))
	each := x.Each()
	for stop := range want {
		var got []string
		for n, s := range each {
			if got = append(got, s); n == stop {
				break
			}
		}
		if !slices.Equal(got, want[:stop+1]) {
			t.Errorf("left at %d: %q", stop, got)
		}
		calls := 0
		each(func(int, string) bool { calls++; return calls <= stop })
		if calls != stop+1 {
			t.Errorf("left at %d: %d told", stop, calls)
		}
		if got := told(x); !slices.Equal(got, want) {
			t.Errorf("gone over again: %q", got)
		}
	}
	i := 0
	for n, s := range each {
		if n != i || s != want[i] {
			t.Errorf("%d: %d, %q", i, n, s)
		}
		j := 0
		for m, s := range each {
			if m != j || s != want[j] {
				t.Errorf("%d within %d: %d, %q", j, i, m, s)
			}
			if j++; j > i {
				break
			}
		}
		i++
	}
	if i != len(want) {
		t.Errorf("%d lines", i)
	}
	if places.New("").Each() == nil || !slices.Equal(told(places.New("")), []string{""}) {
		t.Errorf("lines of nothing")
	}
}

// TestP17_5Point has every place of a text, by hand.
func TestP17_5Point(t *testing.T) {
	const s = "e\u0301x\r\n\u0301\u2028\n\xffz\r" // 0-2, 3, 4-5 | 6-7, 8-10 | 11 | 12, 13, 14 | 15
	x := places.New(s)
	for at, p := range [][2]int{
		{0, 0}, {0, 1}, {0, 1}, {0, 1}, {0, 2}, {0, 2}, {1, 0}, {1, 1}, {1, 1}, {1, 1}, {1, 1}, {2, 0}, {3, 0}, {3, 1}, {3, 2}, {4, 0},
	} {
		if got, want := x.Point(at), (api.Point{Row: p[0], Col: p[1]}); got != want {
			t.Errorf("at %d: %v; want %v", at, got, want)
		}
	}
	for _, at := range []int{-1, -9, math.MinInt} {
		if got := x.Point(at); got != (api.Point{}) {
			t.Errorf("at %d: %v", at, got)
		}
	}
	for _, at := range []int{len(s), len(s) + 1, math.MaxInt} {
		if got := x.Point(at); got != (api.Point{Row: 4}) {
			t.Errorf("at %d: %v", at, got)
		}
		if got := places.New("\nab").Point(at); got != (api.Point{Row: 1, Col: 2}) {
			t.Errorf("at %d: %v", at, got)
		}
		if got := places.New("").Point(at); got != (api.Point{}) {
			t.Errorf("of nothing, at %d: %v", at, got)
		}
	}
	if x := places.New(example); x.Point(8) != (api.Point{Col: 3}) || x.Point(9) != (api.Point{Row: 1}) {
		t.Errorf("the examples: %v, %v", x.Point(8), x.Point(9))
	}
}

// TestP17_5At has points that are there, and such as are not.
func TestP17_5At(t *testing.T) {
	const s = "e\u0301x\r\n\u0301\u2028\n\xffz\r"
	for _, c := range []struct {
		s    string
		p    api.Point
		want int
	}{
		{example, api.Point{Row: 0, Col: 99}, 7}, {example, api.Point{Row: 5, Col: 0}, 10}, {example, api.Point{Row: 1, Col: 0}, 9}, {example, api.Point{Row: 0, Col: 2}, 3},
		{s, api.Point{Row: 0, Col: 0}, 0}, {s, api.Point{Row: 0, Col: 1}, 3}, {s, api.Point{Row: 0, Col: 2}, 4}, {s, api.Point{Row: 0, Col: 3}, 4},
		{s, api.Point{Row: 1, Col: 0}, 6}, {s, api.Point{Row: 1, Col: 1}, 8}, {s, api.Point{Row: 1, Col: math.MaxInt}, 8}, {s, api.Point{Row: 1, Col: -1}, 6},
		{s, api.Point{Row: 2, Col: 0}, 11}, {s, api.Point{Row: 2, Col: 1}, 11}, {s, api.Point{Row: 3, Col: 1}, 13}, {s, api.Point{Row: 3, Col: math.MinInt}, 12},
		{s, api.Point{Row: 4, Col: 0}, 15}, {s, api.Point{Row: 4, Col: math.MaxInt}, 15}, {s, api.Point{Row: 5, Col: -1}, 15}, {s, api.Point{Row: math.MaxInt, Col: math.MinInt}, 15},
		{s, api.Point{Row: -1, Col: 0}, 0}, {s, api.Point{Row: -1, Col: 7}, 0}, {s, api.Point{Row: math.MinInt, Col: math.MaxInt}, 0},
		{"", api.Point{}, 0}, {"", api.Point{Row: 1}, 0}, {"", api.Point{Row: -1}, 0}, {"", api.Point{Col: 1}, 0},
	} {
		if got := places.New(c.s).At(c.p); got != c.want {
			t.Errorf("%q: At %v: %d; want %d", c.s, c.p, got, c.want)
		}
	}
}
