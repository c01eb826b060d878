package search_test

import (
	"math"
	"math/rand"
	"slices"
	"strings"
	"testing"
	"time"

	"kerf/api"
	"kerf/search"
)

// span is a match, as the tests write it.
type span struct{ from, to int }

func matchesOf(l []span) []api.Match {
	var m []api.Match
	for _, x := range l {
		m = append(m, api.Match{From: x.from, To: x.to})
	}
	return m
}

// short are the parts of which all short texts are made.
var short = [][]string{
	{"a", "A", "\u00df", "s"},
	{"a", "\u0301", "\U0001f1e6", "\r", "\n"},
	{"\xe2", "\x82", "\xac", "x"},
	{"a", "1", "'", " "},
	{"f", "\ufb01", "\ufb00", "i"},
}

// texts goes over many short texts, each with all that may be looked for in it.
func texts() func(func(string, string) bool) {
	return func(yield func(string, string) bool) {
		for _, of := range short {
			for s := range rows(3, of...) {
				for _, t := range needles(s) {
					if !yield(s, t) {
						return
					}
				}
			}
		}
	}
}

func TestP22_1(t *testing.T) {
	for _, x := range []struct {
		s, t     string
		o        api.Find
		from, to int
		want     bool
	}{
		{"aaaa", "aa", api.Find{}, 1, 3, true},
		{"aaaa", "aa", api.Find{}, 1, 4, false},
		{"aaaa", "aa", api.Find{}, 3, 1, false},
		{"aaaa", "", api.Find{}, 1, 1, false},
		{"", "", api.Find{Fold: true, Letters: true, Words: true}, 0, 0, false},
		{"\u20ac", "\u20ac", api.Find{}, 0, 3, true},
		{"\u20ac", "\xe2\x82", api.Find{}, 0, 2, false},
		{"\u20ac", "\x82", api.Find{}, 1, 2, false},
		{"\u20ac", "\xac", api.Find{}, 2, 3, false},
		{"\xe2\x82", "\x82", api.Find{}, 1, 2, true},
		{"\xe2\x82", "\xe2", api.Find{}, 0, 1, true},
		{"\xff", "\ufffd", api.Find{Fold: true}, 0, 1, false},
		{"\ufffd", "\xff", api.Find{Fold: true}, 0, 3, false},
		{"Stra\u00dfe", "SS", api.Find{Fold: true}, 4, 6, true},
		{"Stra\u00dfe", "SS", api.Find{}, 4, 6, false},
		{"STRASSE", "\u00df", api.Find{Fold: true}, 4, 6, true},
		{"\u00df", "s", api.Find{Fold: true}, 0, 2, false},
		{"e\u0301e", "e", api.Find{Letters: true}, 0, 1, false},
		{"e\u0301e", "e", api.Find{Letters: true}, 3, 4, true},
		{"e\u0301e", "\u0301e", api.Find{Letters: true}, 1, 4, false},
		{"e\u0301e", "e", api.Find{}, 0, 1, true},
		{"cat concat", "cat", api.Find{Words: true}, 0, 3, true},
		{"cat concat", "cat", api.Find{Words: true}, 7, 10, false},
		{"cat concat", "CAT", api.Find{Words: true}, 0, 3, false},
		{"cat concat", "CAT", api.Find{Fold: true, Words: true}, 0, 3, true},
		{"cat concat", "cat c", api.Find{Words: true}, 0, 5, false},
		{"a\r\n", "\r", api.Find{Words: true}, 1, 2, false},
	} {
		if got := search.Is(x.s, x.t, x.o, x.from, x.to); got != x.want {
			t.Errorf("Is(%q, %q, %v, %d, %d): %v", x.s, x.t, x.o, x.from, x.to, got)
		}
	}
}

func TestP22_1All(t *testing.T) {
	i := 0
	for s, u := range texts() {
		p := plainOf(s)
		i++
		for _, o := range []api.Find{hows[i%len(hows)], hows[(i/len(hows))%len(hows)]} {
			for from := -1; from <= len(s)+1; from++ {
				for to := from - 1; to <= len(s)+1; to++ {
					if got, want := search.Is(s, u, o, from, to), p.is(u, o, from, to); got != want {
						t.Fatalf("Is(%q, %q, %v, %d, %d): %v", s, u, o, from, to, got)
					}
				}
			}
		}
	}
}

func TestP22_1Wrong(t *testing.T) {
	for _, s := range []string{"", "a", "\u20ac", "\xe2\x82", "a\u0301b"} {
		p := plainOf(s)
		for _, o := range hows {
			for _, from := range around(s) {
				for _, to := range around(s) {
					for _, u := range []string{s, "a", ""} {
						if got, want := search.Is(s, u, o, from, to), p.is(u, o, from, to); got != want {
							t.Fatalf("Is(%q, %q, %v, %d, %d): %v", s, u, o, from, to, got)
						}
					}
				}
			}
		}
	}
}

func TestP22_2(t *testing.T) {
	for _, x := range []struct {
		s, t       string
		o          api.Find
		all, every []span
	}{
		{"aaaa", "aa", api.Find{}, []span{{0, 2}, {2, 4}}, []span{{0, 2}, {1, 3}, {2, 4}}},
		{"ababa", "aba", api.Find{}, []span{{0, 3}}, []span{{0, 3}, {2, 5}}},
		{"\u20ac", "\x82", api.Find{}, nil, nil},
		{"\xe2\x82", "\x82", api.Find{}, []span{{1, 2}}, []span{{1, 2}}},
		{"\xe2\x82\xe2\x82\xac", "\xe2\x82", api.Find{}, []span{{0, 2}}, []span{{0, 2}}},
		{"\x82\x82\x82", "\x82\x82", api.Find{}, []span{{0, 2}}, []span{{0, 2}, {1, 3}}},
		{"a", "", api.Find{}, nil, nil},
		{"", "a", api.Find{}, nil, nil},
		{"", "", api.Find{}, nil, nil},
		{"Stra\u00dfe", "SS", api.Find{Fold: true}, []span{{4, 6}}, []span{{4, 6}}},
		{"s\u00dfs", "ss", api.Find{Fold: true}, []span{{1, 3}}, []span{{1, 3}}},
		{"ss\u00df", "\u1e9e", api.Find{Fold: true}, []span{{0, 2}, {2, 4}}, []span{{0, 2}, {2, 4}}},
		{"sss\u00df", "ss", api.Find{Fold: true}, []span{{0, 2}, {3, 5}}, []span{{0, 2}, {1, 3}, {3, 5}}},
		{"s\u00df\u00dfs", "ssss", api.Find{Fold: true}, []span{{1, 5}}, []span{{1, 5}}},
		{"\ufb03", "fi", api.Find{Fold: true}, nil, nil},
		{"e\u0301e", "e", api.Find{Letters: true}, []span{{3, 4}}, []span{{3, 4}}},
		{"\U0001f1e6\U0001f1e6\U0001f1e6\U0001f1e6", "\U0001f1e6\U0001f1e6", api.Find{Letters: true}, []span{{0, 8}, {8, 16}}, []span{{0, 8}, {8, 16}}},
		{"\U0001f1e6\U0001f1e6\U0001f1e6", "\U0001f1e6", api.Find{Letters: true}, []span{{8, 12}}, []span{{8, 12}}},
		{"cat concat", "cat", api.Find{Words: true}, []span{{0, 3}}, []span{{0, 3}}},
		{"can't can", "can", api.Find{Words: true}, []span{{6, 9}}, []span{{6, 9}}},
		{"a b a b a", "a b a", api.Find{Words: true}, []span{{0, 5}}, []span{{0, 5}, {4, 9}}},
	} {
		if got := search.All(x.s, x.t, x.o); !slices.Equal(got, matchesOf(x.all)) {
			t.Errorf("All(%q, %q, %v): %v", x.s, x.t, x.o, got)
		}
		if got := search.Every(x.s, x.t, x.o); !slices.Equal(got, matchesOf(x.every)) {
			t.Errorf("Every(%q, %q, %v): %v", x.s, x.t, x.o, got)
		}
	}
}

// checkFound holds all that is found of t in s against the plain reading.
func checkFound(t *testing.T, s, u string, o api.Find) {
	t.Helper()
	every := plainOf(s).every(u, o)
	all := taken(every)
	if got := search.Every(s, u, o); !slices.Equal(got, every) {
		t.Fatalf("Every(%q, %q, %v): %v, want %v", s, u, o, got, every)
	}
	if got := search.All(s, u, o); !slices.Equal(got, all) {
		t.Fatalf("All(%q, %q, %v): %v, want %v", s, u, o, got, all)
	}
	var each []api.Match
	for from, to := range search.Each(s, u, o) {
		each = append(each, api.Match{From: from, To: to})
	}
	if !slices.Equal(each, all) {
		t.Fatalf("Each(%q, %q, %v): %v, want %v", s, u, o, each, all)
	}
	for _, at := range around(s) {
		got, there := search.Next(s, u, o, at)
		if want, ok := next(every, at); got != want || there != ok {
			t.Fatalf("Next(%q, %q, %v, %d): %v %v, want %v %v", s, u, o, at, got, there, want, ok)
		}
		got, there = search.Prev(s, u, o, at)
		if want, ok := prev(every, at); got != want || there != ok {
			t.Fatalf("Prev(%q, %q, %v, %d): %v %v, want %v %v", s, u, o, at, got, there, want, ok)
		}
	}
	for _, with := range []string{"", u, "a", "\xac", "<" + u + u + ">"} {
		if got, want := search.Replace(s, u, with, o), replace(s, with, all); got != want {
			t.Fatalf("Replace(%q, %q, %q, %v): %q, want %q", s, u, with, o, got, want)
		}
	}
}

func TestP22_2Short(t *testing.T) {
	i := 0
	for s, u := range texts() {
		i++
		checkFound(t, s, u, hows[i%len(hows)])
	}
}

func TestP22_2Some(t *testing.T) {
	r := rand.New(rand.NewSource(222))
	for range 6000 {
		s := someText(r, 14)
		checkFound(t, s, someNeedle(r, s), hows[r.Intn(len(hows))])
	}
}

func TestP22_2Left(t *testing.T) {
	each := search.Each("aaaa b aa", "aa", api.Find{Words: true, Letters: true, Fold: true})
	for range 2 {
		var l []span
		for from, to := range each {
			l = append(l, span{from, to})
		}
		if !slices.Equal(l, []span{{7, 9}}) {
			t.Error(l)
		}
	}
	each = search.Each("aaaaa", "aa", api.Find{})
	var l []span
	for a, b := range each {
		for c, d := range each {
			l = append(l, span{a, b}, span{c, d})
			if c == 0 && a > 0 {
				break
			}
		}
	}
	if !slices.Equal(l, []span{{0, 2}, {0, 2}, {0, 2}, {2, 4}, {2, 4}, {0, 2}}) {
		t.Error(l)
	}
	for range search.Each("a", "", api.Find{}) {
		t.Error("something of nothing")
	}
	for range search.Each("\u00df\u00df\u00df", "ss", api.Find{Fold: true, Letters: true}) {
		break
	}
}

// Answers share nothing.
func TestP22_2New(t *testing.T) {
	for _, call := range []func(s, t string, o api.Find) []api.Match{search.All, search.Every} {
		a, b := call("aaa", "a", api.Find{}), call("aaa", "a", api.Find{})
		a[0].From, a[1].To = 9, 9
		_ = append(a[:1], api.Match{})
		if !slices.Equal(b, matchesOf([]span{{0, 1}, {1, 2}, {2, 3}})) {
			t.Error(b)
		}
	}
}

func TestP22_3(t *testing.T) {
	for _, x := range []struct {
		at                 int
		next, prev         span
		isNext, isPrevious bool
	}{
		{math.MinInt, span{0, 2}, span{}, true, false},
		{-1, span{0, 2}, span{}, true, false},
		{0, span{0, 2}, span{}, true, false},
		{1, span{2, 4}, span{}, true, false},
		{2, span{2, 4}, span{0, 2}, true, true},
		{3, span{}, span{0, 2}, false, true},
		{4, span{}, span{2, 4}, false, true},
		{5, span{}, span{2, 4}, false, true},
		{math.MaxInt, span{}, span{2, 4}, false, true},
	} {
		m, ok := search.Next("abab", "ab", api.Find{}, x.at)
		if m != (api.Match{From: x.next.from, To: x.next.to}) || ok != x.isNext {
			t.Errorf("Next at %d: %v %v", x.at, m, ok)
		}
		m, ok = search.Prev("abab", "ab", api.Find{}, x.at)
		if m != (api.Match{From: x.prev.from, To: x.prev.to}) || ok != x.isPrevious {
			t.Errorf("Prev at %d: %v %v", x.at, m, ok)
		}
	}
	// A place within a rune, and one within a match: what overlaps counts.
	if m, ok := search.Next("\u20aca", "a", api.Find{}, 1); !ok || m.From != 3 {
		t.Error(m, ok)
	}
	if m, ok := search.Next("\u20ac\u20ac", "\u20ac", api.Find{}, 1); !ok || m.From != 3 {
		t.Error(m, ok)
	}
	if m, ok := search.Prev("\u20ac\u20ac", "\u20ac", api.Find{}, 5); !ok || m.To != 3 {
		t.Error(m, ok)
	}
	if m, ok := search.Prev("aaa", "aa", api.Find{}, 3); !ok || m.From != 1 {
		t.Error(m, ok)
	}
	if m, ok := search.Next("aaa", "aa", api.Find{}, 1); !ok || m.From != 1 {
		t.Error(m, ok)
	}
}

func TestP22_3Replace(t *testing.T) {
	for _, x := range []struct {
		s, t, u string
		o       api.Find
		want    string
	}{
		{"a-b", "-", "--", api.Find{}, "a--b"},
		{"aaaaa", "aa", "b", api.Find{}, "bba"},
		{"aaaa", "aa", "aaa", api.Find{}, "aaaaaa"},
		{"a-b", "", "x", api.Find{}, "a-b"},
		{"", "a", "x", api.Find{}, ""},
		{"a-b-", "-", "", api.Find{}, "ab"},
		{"STRASSE Stra\u00dfe", "\u00df", "?", api.Find{Fold: true}, "STRA?E Stra?e"},
		{"\xe2\x82a\xac", "a", "", api.Find{}, "\xe2\x82\xac"},
		{"a a\u0301 a", "a", "b", api.Find{Letters: true}, "b a\u0301 b"},
		{"cat concat", "cat", "dog", api.Find{Words: true}, "dog concat"},
	} {
		if got := search.Replace(x.s, x.t, x.u, x.o); got != x.want {
			t.Errorf("Replace(%q, %q, %q, %v): %q", x.s, x.t, x.u, x.o, got)
		}
	}
}

// Where a text is folded piece by piece, and where one looks back farther and farther, has no part in what is found.
func TestP22_3Far(t *testing.T) {
	r := rand.New(rand.NewSource(2231))
	fill := []string{"x", "\u00df", "\u20ac", "\U0001f600", "\xff", "\xe2\x82", "ss ", "\u0301", "\U0001f1e6"}
	for range 400 {
		var b strings.Builder
		for b.Len() < 900+r.Intn(300) {
			b.WriteString(fill[r.Intn(len(fill))])
		}
		needle := []string{"az\u00df", "\ufb01\u00e9z", "z", "za\xe2\x82"}[r.Intn(4)]
		s := b.String() + needle + b.String()[:r.Intn(200)] + needle + b.String()
		at := b.Len()
		o := hows[r.Intn(len(hows))]
		p := plainOf(s)
		var every []api.Match
		for from := at; from < len(s) && from < at+400; from++ {
			if p.is(needle, o, from, from+len(needle)) {
				every = append(every, api.Match{From: from, To: from + len(needle)})
			}
		}
		if got := search.Every(s, needle, o); !slices.Equal(got, every) {
			t.Fatalf("Every(%q, %q, %v): %v, want %v", s, needle, o, got, every)
		}
		for _, at := range []int{0, at - 1, at, at + 1, at + len(needle), at + 210, len(s), r.Intn(len(s))} {
			got, there := search.Prev(s, needle, o, at)
			if want, ok := prev(every, at); got != want || there != ok {
				t.Fatalf("Prev(%q, %q, %v, %d): %v %v, want %v %v", s, needle, o, at, got, there, want, ok)
			}
			got, there = search.Next(s, needle, o, at)
			if want, ok := next(every, at); got != want || there != ok {
				t.Fatalf("Next(%q, %q, %v, %d): %v %v, want %v %v", s, needle, o, at, got, there, want, ok)
			}
		}
	}
}

// quick is that what is done takes no longer than so many seconds, which is far more than it needs where it is not gone through again and again.
func quick(t *testing.T, what string, do func()) {
	t.Helper()
	begin := time.Now()
	do()
	if took := time.Since(begin); took > 5*time.Second {
		t.Errorf("%s: %v", what, took)
	}
}

// What lies far away has no part in what is near.
func TestNear(t *testing.T) {
	const row, many = "ab \U0001f600\u00df\n", 80000
	s := strings.Repeat(row, many)
	o := api.Find{Fold: true, Letters: true, Words: true}
	quick(t, "near", func() {
		for i := range 400 {
			at := i * (many / 400) * len(row)
			m, ok := search.Next(s, "SS", o, at)
			if !ok || m != (api.Match{From: at + 7, To: at + 9}) {
				t.Fatal("Next", at, m, ok)
			}
			if n, ok := search.Prev(s, "SS", o, at+len(row)); !ok || n != m {
				t.Fatal("Prev", at, n, ok)
			}
			for from, to := range search.Each(s, "SS", o) {
				if from != 7 || to != 9 {
					t.Fatal("Each", from, to)
				}
				break
			}
		}
	})
}

func TestLong(t *testing.T) {
	const many = 60000
	rows := []string{"a", "\u00df", "\U0001f1e6", "a\u0301", "\x82", "\u30ab", "1.", "\u0301", "\r\n"}
	for i, row := range rows {
		s := strings.Repeat(row, many/len(row))
		half := strings.Repeat(row, many/len(row)/2)
		for _, o := range []api.Find{hows[i%2], {Letters: true}, {Fold: i%2 == 0, Words: true}} {
			quick(t, row, func() {
				for _, u := range []string{row, half, half + "b", row + row + row} {
					n := len(search.Every(s, u, o))
					if all := search.All(s, u, o); len(all) > n {
						t.Error(len(all), n)
					}
					search.Next(s, u, o, len(s)/2)
					search.Prev(s, u, o, len(s)/2)
					search.Prev(s, "zz", o, len(s))
					search.Replace(s, u, "", o)
				}
			})
		}
	}
	if n := len(search.Every(strings.Repeat("a", many), strings.Repeat("A", many/2), api.Find{Fold: true})); n != many/2+1 {
		t.Error(n)
	}
}
