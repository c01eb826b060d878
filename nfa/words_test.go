package nfa_test

import (
	"math"
	"math/rand"
	"slices"
	"testing"

	"kerf/api"
	"kerf/nfa"
)

func TestP6_5Useful(t *testing.T) {
	for _, c := range []struct {
		n    api.Nfa
		want string
	}{
		{automaton(0, 0, state()), "[0]"},
		{automaton(0, 1, state(), state()), "[]"},
		{automaton(0, 1, state(edge(1)), state()), "[]"},
		{automaton(0, 1, state(edge(1, 0)), state()), "[0 1]"},
		{automaton(1, 0, state(), state(edge(0, 63))), "[0 1]"},
		{automaton(0, 1, free(1), state()), "[0 1]"},
		// 2 leads nowhere, 3 is not come to, 4 is come to by an edge without Classes, 5 leads on by one alone.
		{automaton(0, 1, state(edge(2, 1), edge(1, 1), edge(4), edge(5, 2)), state(), state(), free(1), free(1), state(edge(1))), "[0 1]"},
		{automaton(0, 4, state(edge(3, 1)), free(4), state(), free(1), state(edge(2, 7))), "[0 1 3 4]"},
		{automaton(2, 2, free(2), state(), state(edge(0, 1), edge(1, 1))), "[0 2]"},
		{ring, "[0 1 2 3 4]"},
	} {
		if got := nfa.Useful(c.n); text(got) != c.want {
			t.Error(c.n, got)
		}
	}
	r := rand.New(rand.NewSource(65))
	none := 0
	for range 4000 {
		n := someNfa(r, 2, 7)
		want := plainUseful(n)
		if got := nfa.Useful(n); text(got) != text(want) {
			t.Fatal(n, got, want)
		}
		if len(want) == 0 {
			none++
		}
	}
	if none < 100 {
		t.Error(none)
	}
}

func TestP6_5Least(t *testing.T) {
	for _, c := range []struct {
		n    api.Nfa
		want string
		ok   bool
	}{
		{automaton(0, 0, state()), "[]", true},
		{automaton(0, 1, state(), state()), "[]", false},
		{automaton(0, 1, state(edge(1)), state()), "[]", false},
		{automaton(0, 1, state(edge(1, 9, 63)), state()), "[9]", true},
		{automaton(0, 1, state(edge(1, 63)), state()), "[63]", true},
		{automaton(0, 1, state(edge(1, 0)), state()), "[0]", true},
		{made(t, or(set(7), then(set(0), set(0)))), "[7]", true},
		{made(t, or(then(set(3), set(1)), then(set(2), set(9)), then(set(2), set(8)))), "[2 8]", true},
		// The least class of all leads where End is too far.
		{made(t, or(then(set(0), set(0), set(0)), then(set(5), set(4)))), "[5 4]", true},
		{made(t, then(many(set(0)), set(6))), "[6]", true},
		{made(t, some(or(set(), set(3)))), "[3]", true},
		{ring, "[5 5]", true},
	} {
		if got, ok := nfa.Least(c.n); text(got) != c.want || ok != c.ok {
			t.Error(c.n, got, ok)
		}
	}
}

func TestP6_5LeastLong(t *testing.T) {
	// The longest list that is the shortest of an automaton, and several ways at each place.
	n := chain(api.MaxStates, 1)
	for i := range n.States[:api.MaxStates-1] {
		n.States[i].Edges = append(n.States[i].Edges, edge(i+1, 0, 2), edge(i, 0))
	}
	if w, ok := nfa.Least(n); !ok || len(w) != api.MaxStates-1 || slices.Max(w) != 0 {
		t.Error(len(w), ok)
	}
	n.States[4094].Edges = n.States[4094].Edges[:1]
	if w, ok := nfa.Least(n); !ok || len(w) != api.MaxStates-1 || w[4094] != 1 || slices.Max(w[:4094]) != 0 {
		t.Error(len(w), ok)
	}
	if w := nfa.Words(n, math.MaxInt, 5); len(w) != 0 {
		t.Error(w)
	}
}

func TestP6_5Words(t *testing.T) {
	star := made(t, many(set(1)))
	two := made(t, many(set(0, 1)))
	for _, c := range []struct {
		n          api.Nfa
		long, most int
		want       string
	}{
		{star, 2, 9, "[[] [1] [1 1]]"},
		{star, 2, 3, "[[] [1] [1 1]]"},
		{star, 2, 2, "[[] [1]]"},
		{star, 2, 1, "[[]]"},
		{star, 2, 0, "[]"},
		{star, 2, -1, "[]"},
		{star, 2, math.MinInt, "[]"},
		{star, 0, 9, "[[]]"},
		{star, -1, 9, "[]"},
		{star, math.MinInt, 9, "[]"},
		{two, 2, 9, "[[] [0] [1] [0 0] [0 1] [1 0] [1 1]]"},
		{two, 2, 5, "[[] [0] [1] [0 0] [0 1]]"},
		{automaton(0, 1, state(), state()), 12, 9, "[]"},
		{automaton(0, 1, state(edge(1)), state()), 12, 9, "[]"},
		// By several ways, and told once.
		{made(t, or(set(1, 2), set(2, 3), set(2))), 12, 9, "[[1] [2] [3]]"},
		{automaton(0, 1, state(edge(1, 4), edge(1, 4), edge(1, 4, 5)), free(1)), 12, 9, "[[4] [5]]"},
		{made(t, many(many(may(set(6))))), 2, 9, "[[] [6] [6 6]]"},
		{automaton(0, 1, state(edge(1, 0, 63)), state()), 1, 9, "[[0] [63]]"},
		// No list of a length between.
		{made(t, many(then(set(1), set(1), set(1)))), 7, 9, "[[] [1 1 1] [1 1 1 1 1 1]]"},
	} {
		if got := nfa.Words(c.n, c.long, c.most); text(got) != c.want {
			t.Error(c.n, c.long, c.most, got)
		}
	}
}

func TestP6_5WordsMost(t *testing.T) {
	star, two := made(t, many(set(1))), made(t, many(set(0, 1)))
	for _, long := range []int{12, 13, 4000, math.MaxInt} {
		w := nfa.Words(star, long, math.MaxInt)
		if len(w) != 13 || len(w[12]) != 12 {
			t.Error(long, len(w))
		}
	}
	if w := nfa.Words(star, 11, 1000); len(w) != 12 {
		t.Error(len(w))
	}
	all := lists(2, 9)
	for _, most := range []int{998, 999, 1000, 1001, 5000, math.MaxInt} {
		w := nfa.Words(two, 12, most)
		if text(w) != text(all[:min(most, 1000)]) {
			t.Error(most, len(w))
		}
	}
	// Just a thousand and more of one length.
	var ten []int
	for c := range 10 {
		ten = append(ten, c)
	}
	three := then(set(ten...), set(ten...), set(ten...))
	if w := nfa.Words(made(t, three), 3, 1000); len(w) != 1000 || text(w[999]) != "[9 9 9]" {
		t.Error(len(w))
	}
	if w := nfa.Words(made(t, or(three, set(9, 10))), 3, 2000); len(w) != 1000 || text(w[999]) != "[9 9 7]" {
		t.Error(len(w))
	}
}

func TestP6_12AgainstPlain(t *testing.T) {
	r := rand.New(rand.NewSource(72))
	none := 0
	for range 2500 {
		n := someNfa(r, 3, 5)
		// A shortest list has fewer classes than there are states.
		words := plainWords(n, 3, 5, 1000)
		least, ok := nfa.Least(n)
		if ok != (len(words) > 0) || ok && !slices.Equal(least, words[0]) || !ok && len(least) > 0 {
			t.Fatal(n, least, ok, words)
		}
		if !ok {
			none++
		}
		long, most := r.Intn(8)-1, r.Intn(40)-1
		if long > 5 {
			long = 5
		}
		got, want := nfa.Words(n, long, most), plainWords(n, 3, long, most)
		if text(got) != text(want) {
			t.Fatal(n, long, most, got, want)
		}
	}
	if none < 100 {
		t.Error(none)
	}
}

func TestP6_12Words(t *testing.T) {
	r := rand.New(rand.NewSource(73))
	for range 300 {
		n := someNfa(r, 3, 8)
		words := nfa.Words(n, api.MaxLong, 1000)
		if least, ok := nfa.Least(n); ok && len(least) <= api.MaxLong && (len(words) == 0 || !slices.Equal(least, words[0])) {
			t.Fatal("not the first", n, least)
		}
		for i, w := range words {
			if !nfa.Takes(n, w) {
				t.Fatal("not taken", n, w)
			}
			if i > 0 && (len(w) < len(words[i-1]) || len(w) == len(words[i-1]) && slices.Compare(words[i-1], w) >= 0) {
				t.Fatal("out of order, or twice", n, words[i-1], w)
			}
		}
		// What is told whole: all lists shorter than the last one, and of its length, if there was room for more.
		told := map[string]int{}
		for _, w := range words {
			told[text(w)] = 1
		}
		for _, l := range lists(3, 5) {
			whole := len(words) < 1000 || len(l) < len(words[999])
			if whole && nfa.Takes(n, l) && told[text(l)] == 0 {
				t.Fatal("left out", n, l)
			}
		}
	}
}
