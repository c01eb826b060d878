package dfa_test

import (
	"math"
	"math/rand"
	"testing"

	"kerf/api"
	"kerf/dfa"
)

func least(t *testing.T, d api.Dfa) api.Dfa {
	t.Helper()
	l, e := dfa.Least(d)
	if e != api.OK {
		t.Fatal(d, e)
	}
	return l
}

func TestP7_3Least(t *testing.T) {
	for name, c := range map[string]struct {
		d    api.Dfa
		want string
	}{
		"takes nothing":              {automaton([]int{0, 0}, row(1, 0), row(0, -1)), "{2 [[-1 -1]] [0]}"},
		"takes, but one never comes": {automaton([]int{0, 1}, row(0, -1), row(1, 1)), "{2 [[-1 -1]] [0]}"},
		"takes every list":           {automaton([]int{1, 1, 1}, row(1, 2), row(2, 0), row(0, 1)), "{2 [[0 0]] [1]}"},
		"the empty list alone":       {automaton([]int{1, 0}, row(1, -1), row(1, 1)), "{2 [[-1 -1]] [1]}"},
		"dead ones go":               {automaton([]int{0, 0, 1}, row(1, 2), row(1, -1), row(1, 1)), "{2 [[-1 1] [-1 -1]] [0 1]}"},
		"unmet ones go":              {automaton([]int{0, 1, 1}, row(2, -1), row(0, 1), row(-1, 2)), "{2 [[1 -1] [-1 1]] [0 1]}"},
		"alike ones are one":         {automaton([]int{0, 1, 1, 1}, row(1, 2), row(-1, 3), row(-1, 1), row(-1, 2)), "{2 [[1 1] [-1 1]] [0 1]}"},
		"dead and nowhere are alike": {automaton([]int{0, 1, 1, 0}, row(1, 2), row(3, 1), row(-1, 2), row(3, 3)), "{2 [[1 1] [-1 1]] [0 1]}"},
		"numbers by classes":         {automaton([]int{0, 1, 0, 0}, row(3, 2), row(-1, -1), row(1, -1), row(-1, 1)), "{2 [[1 2] [-1 3] [3 -1] [-1 -1]] [0 0 0 1]}"},
		"numbers by states":          {automaton([]int{0, 0, 0, 1, 1}, row(2, 1), row(3, -1), row(-1, 4), row(-1, 3), row(4, -1)), "{2 [[1 2] [-1 3] [4 -1] [3 -1] [-1 4]] [0 0 0 1 1]}"},
		"the start again":            {automaton([]int{1, 0, 1}, row(1, -1), row(-1, 2), row(1, -1)), "{2 [[1 -1] [-1 0]] [1 0]}"},
		"numbers in the second row":  {automaton([]int{0, 0, 1, 0}, row(1, -1), row(3, 2), row(0, -1), row(2, 2)), "{2 [[1 -1] [2 3] [3 3] [0 -1]] [0 0 0 1]}"},
	} {
		if got := least(t, c.d); text(got) != c.want {
			t.Error(name, got)
		}
	}
}

func TestP7_3AgainstPlain(t *testing.T) {
	r := rand.New(rand.NewSource(73))
	shrunk := 0
	for range 6000 {
		d := someDfa(r, 1+r.Intn(3), 9)
		want := plainLeast(d)
		if got := least(t, d); text(got) != text(want) {
			t.Fatal(d, got, want)
		}
		if n := len(want.Next); n > 2 && n < len(d.Next) {
			shrunk++
		}
	}
	if shrunk < 300 {
		t.Error("few of them have more than two states and are not the least", shrunk)
	}
	// Many alike: each state stands there several times.
	for range 300 {
		d := someDfa(r, 2, 6)
		n := len(d.Next)
		copies := made(n*4, 2, func(s, c int) int {
			if to := d.Next[s%n][c]; to >= 0 {
				return to + n*r.Intn(4)
			}
			return -1
		}, func(s int) bool { return d.Take[s%n] == 1 })
		if got, want := least(t, copies), plainLeast(d); text(got) != text(want) {
			t.Fatal(d, got, want)
		}
	}
}

func TestP7_3Great(t *testing.T) {
	for _, d := range []api.Dfa{chain(1024, 64), chain(1024, 1), counter(1024, 2, 1, 0), counter(1024, 3, 0, 9)} {
		if got := least(t, d); text(got) != text(d) {
			t.Error(len(got.Next), got.Classes)
		}
	}
	r := rand.New(rand.NewSource(733))
	d := made(1024, 3, func(s, c int) int { return max(-1, r.Intn(1100)-76) }, func(s int) bool { return s%7 == 0 })
	if got, want := least(t, d), plainLeast(d); text(got) != text(want) {
		t.Error(len(got.Next), len(want.Next))
	}
}

func TestP7_11MyhillNerode(t *testing.T) {
	r := rand.New(rand.NewSource(711))
	for range 1000 {
		d := someDfa(r, 2, 5)
		l := least(t, d)
		lists := listsUpTo(2, len(l.Next))
		for s := range l.Next {
			for q := range s {
				told := false
				for _, c := range lists {
					told = told || plainTakes(l, s, c) != plainTakes(l, q, c)
				}
				if !told {
					t.Fatal(d, l, s, q)
				}
			}
		}
		if len(l.Next) > len(d.Next) {
			t.Fatal(d, l)
		}
		for _, c := range listsUpTo(2, 6) {
			if dfa.Takes(l, c) != plainTakes(d, 0, c) {
				t.Fatal(d, l, c)
			}
		}
		// Live tells the start alone of what it leaves out.
		if live := dfa.Live(l); len(live) != len(l.Next) && (len(l.Next) != 1 || text(l.Next[0]) != "[-1 -1]") {
			t.Fatal(d, l, live)
		}
	}
}

func TestP7_12OneForm(t *testing.T) {
	r := rand.New(rand.NewSource(712))
	same := 0
	for range 6000 {
		a, b := someDfa(r, 2, 3), someDfa(r, 2, 3)
		x, y := least(t, a), least(t, b)
		_, apart := plainApart(a, b)
		if (text(x) == text(y)) == apart || dfa.Same(a, b) == apart {
			t.Fatal(a, b, x, y)
		}
		if text(least(t, x)) != text(x) {
			t.Fatal(a, x)
		}
		if !apart {
			same++
		}
	}
	if same < 500 {
		t.Error(same)
	}
}

func TestP7_7SameApart(t *testing.T) {
	a1 := automaton([]int{1}, row(0))
	for name, c := range map[string]struct {
		a, b api.Dfa
		want string
		same bool
	}{
		"unlike classes":         {a1, automaton([]int{1}, row(0, 0)), "[] false", false},
		"unlike, takes nothing":  {automaton([]int{0}, row(0)), automaton([]int{0}, row(0, 0)), "[] false", false},
		"not good":               {a1, automaton([]int{2}, row(0)), "[] false", false},
		"both not good":          {automaton([]int{2}, row(0)), automaton([]int{2}, row(0)), "[] false", false},
		"equal":                  {a1, a1, "[] false", true},
		"same, not equal":        {a1, automaton([]int{1, 1}, row(1), row(0)), "[] false", true},
		"the empty list":         {a1, automaton([]int{0}, row(0)), "[] true", false},
		"one class":              {automaton([]int{1}, row(0, 0)), automaton([]int{1}, row(0, -1)), "[1] true", false},
		"the less class":         {automaton([]int{1}, row(-1, 0, 0)), automaton([]int{1}, row(-1, -1, -1)), "[1] true", false},
		"the shorter, not less":  {automaton([]int{0, 0, 1}, row(1, 2), row(2, -1), row(-1, -1)), automaton([]int{0}, row(0, 0)), "[1] true", false},
		"the first place":        {automaton([]int{0, 0, 0, 1}, row(1, 2), row(-1, 3), row(3, 3), row(-1, -1)), automaton([]int{0}, row(0, 0)), "[0 1] true", false},
		"several of one length":  {automaton([]int{0, 0, 0, 1}, row(2, 1), row(3, -1), row(-1, 3), row(3, -1)), automaton([]int{0}, row(0, 0)), "[0 1] true", false},
		"the other one takes it": {automaton([]int{0}, row(0, 0)), automaton([]int{0, 1}, row(-1, 1), row(-1, -1)), "[1] true", false},
	} {
		for range 2 {
			l, ok := dfa.Apart(c.a, c.b)
			if text(l)+" "+text(ok) != c.want || dfa.Same(c.a, c.b) != c.same {
				t.Error(name, l, ok)
			}
			c.a, c.b = c.b, c.a
		}
	}
	if l, ok := dfa.Apart(chain(1024, 2), chain(1023, 2)); !ok || len(l) != 1022 {
		t.Error(len(l), ok)
	}
	r := rand.New(rand.NewSource(77))
	long := 0
	for range 3000 {
		a, b := someDfa(r, 2, 4), someDfa(r, 2, 4)
		if r.Intn(3) > 0 {
			b = made(len(a.Next), 2, func(s, c int) int { return a.Next[s][c] }, func(s int) bool { return a.Take[s] == 1 })
			b.Next[r.Intn(len(b.Next))][r.Intn(2)] = r.Intn(len(b.Next)+1) - 1
		}
		l, ok := dfa.Apart(a, b)
		want, wantOk := plainApart(a, b)
		if text(l) != text(want) || ok != wantOk || dfa.Same(a, b) == ok {
			t.Fatal(a, b, l, ok, want, wantOk)
		}
		if len(l) > 2 {
			long++
		}
	}
	if long < 50 {
		t.Error(long)
	}
}

func TestP7_8Join(t *testing.T) {
	zeros := automaton([]int{1}, row(0, -1))
	evens := automaton([]int{1, 0}, row(1, 1), row(0, 0))
	for how, want := range []string{
		"{2 [[1 2] [0 3] [3 3] [2 2]] [1 1 0 1]}",
		"{2 [[1 -1] [0 -1]] [1 0]}",
		"{2 [[1 -1] [0 -1]] [0 1]}",
		"{2 [[1 2] [0 3] [3 3] [2 2]] [0 1 0 1]}",
	} {
		if d, e := dfa.Join(zeros, evens, how); e != api.OK || text(d) != want {
			t.Error(how, d, e)
		}
	}
	bad := automaton([]int{2}, row(0, 0))
	for _, c := range []struct {
		a, b api.Dfa
		how  int
		want api.Errno
	}{
		{zeros, evens, -1, api.ErrArg}, {zeros, evens, 4, api.ErrArg}, {zeros, evens, math.MaxInt, api.ErrArg}, {zeros, evens, math.MinInt, api.ErrArg},
		{zeros, chain(2, 3), 0, api.ErrArg}, {zeros, chain(2, 1), 3, api.ErrArg},
		{bad, evens, 0, api.ErrDfa}, {zeros, bad, 1, api.ErrDfa}, {bad, bad, 2, api.ErrDfa}, {zeros, api.Dfa{}, 3, api.ErrDfa},
		{bad, evens, 4, api.ErrDfa}, {zeros, bad, -1, api.ErrDfa}, {bad, chain(2, 3), 0, api.ErrDfa}, {chain(2, 3), bad, 0, api.ErrDfa},
		{counter(40, 2, 0, 9), counter(40, 2, 1, 9), 4, api.ErrArg}, {counter(40, 2, 0, 9), counter(40, 3, 1, 9), 1, api.ErrArg},
		{counter(40, 2, 0, 9), counter(40, 2, 1, 9), 1, api.ErrMany},
	} {
		if d, e := dfa.Join(c.a, c.b, c.how); e != c.want || !zero(d) {
			t.Error(c.how, c.want, e)
		}
	}
	r := rand.New(rand.NewSource(78))
	for range 3000 {
		classes := 1 + r.Intn(3)
		a, b := someDfa(r, classes, 5), someDfa(r, classes, 5)
		how := r.Intn(4)
		d, e := dfa.Join(a, b, how)
		if want := plainJoin(a, b, how); e != api.OK || text(d) != text(want) {
			t.Fatal(a, b, how, d, e, want)
		}
	}
}

func TestP7_8MaxSets(t *testing.T) {
	const none = -1
	for _, c := range []struct {
		x, y, barred, how, states int
	}{
		{32, 32, none, 1, 1024}, {32, 32, none, 0, 1024}, {32, 32, none, 2, 1024}, {32, 32, none, 3, 1024},
		// One more, and one more to which no list leads that is taken.
		{25, 41, none, 1, 0}, {25, 41, none, 0, 0}, {41, 25, none, 2, 0}, {41, 25, none, 3, 0},
		{32, 32, 2, 1, 1024}, {32, 32, 2, 3, 1024}, {25, 41, 2, 1, 0}, {33, 31, 2, 0, 1023}, {32, 33, 2, 2, 0},
	} {
		d, e := dfa.Join(counter(c.x, 3, 0, c.barred), counter(c.y, 3, 1, c.barred), c.how)
		if (e == api.ErrMany) != (c.states == 0) || e != api.OK && e != api.ErrMany || len(d.Next) != c.states {
			t.Error(c, e, len(d.Next))
		}
		if e != api.OK && !zero(d) {
			t.Error(c, d)
		}
	}
	// Many pairs, of which few are unlike.
	if d, e := dfa.Join(counter(1024, 2, 0, none), everything(1024, 2), 0); e != api.OK || text(d) != "{2 [[0 0]] [1]}" {
		t.Error(e, len(d.Next))
	}
	x := counter(1024, 2, 0, none)
	if d, e := dfa.Join(x, x, 1); e != api.OK || text(d) != text(x) {
		t.Error(e, len(d.Next))
	}
	if d, e := dfa.Join(x, x, 3); e != api.OK || text(d) != "{2 [[-1 -1]] [0]}" {
		t.Error(e, len(d.Next))
	}
}

func TestP7_13Boolean(t *testing.T) {
	r := rand.New(rand.NewSource(713))
	for range 600 {
		a, b := someDfa(r, 2, 5), someDfa(r, 2, 5)
		for how := range 4 {
			d, e := dfa.Join(a, b, how)
			if e != api.OK {
				t.Fatal(a, b, how, e)
			}
			for _, l := range listsUpTo(2, 5) {
				x, y := dfa.Takes(a, l), dfa.Takes(b, l)
				if dfa.Takes(d, l) != [4]bool{x || y, x && y, x && !y, x != y}[how] {
					t.Fatal(a, b, how, l)
				}
			}
		}
		l, ok := dfa.Apart(a, b)
		if ok == dfa.Same(a, b) || ok && dfa.Takes(a, l) == dfa.Takes(b, l) {
			t.Fatal(a, b, l, ok)
		}
	}
}

// lastOf counts lists, and notes whether their last class is from low to high: what it takes hangs on both.
func lastOf(size, low, high int) api.Dfa {
	return made(2*size, 64, func(s, c int) int {
		to := (s/2 + c + 1) % size * 2
		if c >= low && c <= high {
			to++
		}
		return to
	}, func(s int) bool { return s%2 == 1 || s == 6 })
}

func TestSoonDone(t *testing.T) {
	// A million pairs: by one class, and by sixty-four.
	if _, e := dfa.Join(counter(1024, 1, 0, 9), counter(1023, 1, 0, 9), 1); e != api.ErrMany {
		t.Error(e)
	}
	if d, e := dfa.Join(lastOf(512, 0, 31), lastOf(511, 32, 63), 0); e != api.OK || len(d.Next) != 2 {
		t.Error(len(d.Next), e)
	}
	if l, ok := dfa.Apart(counter(1024, 64, 0, 99), counter(1024, 64, 1, 99)); !ok || text(l) != "[0]" {
		t.Error(l, ok)
	}
	if !dfa.Same(lastOf(512, 0, 31), lastOf(512, 0, 31)) || len(dfa.Live(chain(1024, 64))) != 1024 || len(dfa.Sure(everything(1024, 64))) != 1024 {
		t.Error("Same, Live, Sure")
	}
}
