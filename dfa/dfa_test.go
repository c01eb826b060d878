package dfa_test

import (
	"math"
	"math/rand"
	"slices"
	"sync"
	"testing"

	"kerf/api"
	"kerf/dfa"
)

func TestNumbers(t *testing.T) {
	if api.ErrDfa != 70 || api.ErrBytes != 71 || api.MaxSets != 1024 || api.MaxClasses != 64 {
		t.Error("the chapter has other numbers")
	}
}

// everything takes every list, of some classes.
func everything(states, classes int) api.Dfa {
	return made(states, classes, func(s, c int) int { return s }, func(s int) bool { return true })
}

// tellsNothing is whether the other calls answer of d what they answer of one that is not good.
func tellsNothing(t *testing.T, d api.Dfa) bool {
	t.Helper()
	other := everything(1, 1)
	if len(d.Next) > 0 && d.Classes > 0 && d.Classes <= api.MaxClasses {
		other = everything(1, d.Classes)
	}
	refused := 0
	for _, f := range []func() (api.Dfa, api.Errno){
		func() (api.Dfa, api.Errno) { return dfa.Least(d) },
		func() (api.Dfa, api.Errno) { return dfa.Join(d, other, 0) },
		func() (api.Dfa, api.Errno) { return dfa.Join(other, d, 0) },
		func() (api.Dfa, api.Errno) { return dfa.Join(d, d, 9) },
	} {
		got, e := f()
		if e != api.OK && (got.Classes != 0 || got.Next != nil || got.Take != nil) {
			t.Error("something beside an error", got)
		}
		if e == api.ErrDfa {
			refused++
		}
	}
	b, e := dfa.Put(d)
	if e == api.ErrDfa && b == nil {
		refused++
	}
	l, ok := dfa.Apart(d, other)
	m, ok2 := dfa.Apart(other, d)
	if dfa.Run(d, 0, nil) == -1 && !dfa.Takes(d, nil) && dfa.Longest(d, nil) == -1 && len(dfa.Live(d)) == 0 && len(dfa.Sure(d)) == 0 {
		refused++
	}
	if !dfa.Same(d, d) && !dfa.Same(d, other) && !dfa.Same(other, d) && len(l) == 0 && !ok && len(m) == 0 && !ok2 {
		refused++
	}
	if refused != 0 && refused != 7 {
		t.Error("some calls answer, some do not", refused)
	}
	return refused == 7
}

func TestP7_1Check(t *testing.T) {
	full := everything(3, 2)
	with := func(change func(d *api.Dfa)) api.Dfa {
		d := everything(3, 2)
		change(&d)
		return d
	}
	for name, c := range map[string]struct {
		d    api.Dfa
		want api.Errno
	}{
		"good":                 {full, api.OK},
		"zero":                 {api.Dfa{}, api.ErrDfa},
		"no states":            {api.Dfa{Classes: 2}, api.ErrDfa},
		"no states, a Take":    {api.Dfa{Classes: 2, Take: []int{1}}, api.ErrDfa},
		"classes 0":            {everything(3, 0), api.ErrDfa},
		"classes 1":            {everything(3, 1), api.OK},
		"classes 64":           {everything(3, 64), api.OK},
		"classes 65":           {everything(3, 65), api.ErrDfa},
		"classes below 0":      {with(func(d *api.Dfa) { d.Classes = -1 }), api.ErrDfa},
		"classes far below 0":  {with(func(d *api.Dfa) { d.Classes = math.MinInt }), api.ErrDfa},
		"classes far above":    {with(func(d *api.Dfa) { d.Classes = math.MaxInt }), api.ErrDfa},
		"classes too few":      {with(func(d *api.Dfa) { d.Classes = 1 }), api.ErrDfa},
		"classes too many":     {with(func(d *api.Dfa) { d.Classes = 3 }), api.ErrDfa},
		"one state":            {everything(1, 2), api.OK},
		"1024 states":          {everything(1024, 2), api.OK},
		"1025 states":          {everything(1025, 2), api.ErrDfa},
		"Take longer":          {with(func(d *api.Dfa) { d.Take = append(d.Take, 1) }), api.ErrDfa},
		"Take shorter":         {with(func(d *api.Dfa) { d.Take = d.Take[:2] }), api.ErrDfa},
		"no Take":              {with(func(d *api.Dfa) { d.Take = nil }), api.ErrDfa},
		"Take 2":               {with(func(d *api.Dfa) { d.Take[2] = 2 }), api.ErrDfa},
		"Take -1":              {with(func(d *api.Dfa) { d.Take[0] = -1 }), api.ErrDfa},
		"Take 0":               {with(func(d *api.Dfa) { d.Take[1] = 0 }), api.OK},
		"a row longer":         {with(func(d *api.Dfa) { d.Next[1] = append(d.Next[1], 0) }), api.ErrDfa},
		"a row shorter":        {with(func(d *api.Dfa) { d.Next[2] = d.Next[2][:1] }), api.ErrDfa},
		"no row":               {with(func(d *api.Dfa) { d.Next[2] = nil }), api.ErrDfa},
		"Next -2":              {with(func(d *api.Dfa) { d.Next[2][1] = -2 }), api.ErrDfa},
		"Next -1":              {with(func(d *api.Dfa) { d.Next[2][1] = -1 }), api.OK},
		"Next 2":               {with(func(d *api.Dfa) { d.Next[0][0] = 2 }), api.OK},
		"Next 3":               {with(func(d *api.Dfa) { d.Next[0][0] = 3 }), api.ErrDfa},
		"Next far":             {with(func(d *api.Dfa) { d.Next[0][1] = math.MaxInt }), api.ErrDfa},
		"Next far below":       {with(func(d *api.Dfa) { d.Next[1][0] = math.MinInt }), api.ErrDfa},
		"Next by 2^32 too far": {with(func(d *api.Dfa) { d.Next[1][0] = 1 << 32 }), api.ErrDfa},
		"one row for all":      {api.Dfa{Classes: 2, Next: [][]int{full.Next[0], full.Next[0]}, Take: []int{1, 0}}, api.OK},
	} {
		if e := dfa.Check(c.d); e != c.want {
			t.Errorf("%s: %d, not %d", name, e, c.want)
		}
		if tellsNothing(t, c.d) != (c.want != api.OK) {
			t.Errorf("%s: what the other calls tell", name)
		}
	}
}

func TestP7_1AgainstPlain(t *testing.T) {
	r := rand.New(rand.NewSource(71))
	seen := [2]int{}
	for range 20000 {
		d := someDfa(r, 1+r.Intn(3), 4)
		for range r.Intn(3) {
			s := r.Intn(len(d.Next))
			switch r.Intn(5) {
			case 0:
				d.Classes = r.Intn(5) - 1
			case 1:
				d.Take = append(d.Take, 1)[r.Intn(2):]
			case 2:
				d.Take[r.Intn(len(d.Take))] = r.Intn(4) - 1
			case 3:
				if len(d.Next[s]) > 0 {
					d.Next[s][r.Intn(len(d.Next[s]))] = r.Intn(8) - 2
				}
			case 4:
				d.Next[s] = append(d.Next[s], 0)[r.Intn(2):]
			}
		}
		good := plainGood(d)
		if (dfa.Check(d) == api.OK) != good || tellsNothing(t, d) == good {
			t.Fatal(d, dfa.Check(d), good)
		}
		if good {
			seen[0]++
		} else {
			seen[1]++
		}
	}
	if seen[0] < 3000 || seen[1] < 3000 {
		t.Error(seen)
	}
}

func TestP7_4RunTakes(t *testing.T) {
	d := automaton([]int{0, 1, 0}, row(1, -1), row(2, 1), row(2, 2))
	for _, c := range []struct {
		from, want int
		list       []int
	}{
		{0, 0, nil}, {0, 1, row(0)}, {0, -1, row(1)}, {0, -1, row(1, 0)}, {0, 1, row(0, 1, 1)}, {0, 2, row(0, 1, 0, 1)},
		{1, 1, nil}, {2, 2, row(1)}, {-1, -1, nil}, {-1, -1, row(0)}, {3, -1, nil}, {4, -1, row(0)},
		{math.MaxInt, -1, nil}, {math.MinInt, -1, row(1)},
		{0, -1, row(-1)}, {0, -1, row(2)}, {1, -1, row(1, 2)}, {1, -1, row(1, 2, 1)}, {2, -1, row(-1, 0, 0)},
		{2, -1, row(math.MinInt)}, {2, -1, row(math.MaxInt, 1)},
	} {
		if got := dfa.Run(d, c.from, c.list); got != c.want {
			t.Error(c, got)
		}
	}
	for _, c := range []struct {
		list []int
		want bool
	}{
		{nil, false}, {row(0), true}, {row(0, 1), true}, {row(1), false}, {row(0, 0), false}, {row(0, 2), false}, {row(0, 1, -1), false}, {row(0, -1, 1), false},
	} {
		if dfa.Takes(d, c.list) != c.want {
			t.Error(c)
		}
	}
	r := rand.New(rand.NewSource(74))
	for range 5000 {
		d := someDfa(r, 2, 5)
		c := someList(r, 4, 6)
		for i := range c {
			c[i]--
		}
		if dfa.Takes(d, c) != plainTakes(d, 0, c) {
			t.Fatal(d, c)
		}
		at := r.Intn(len(c) + 1)
		if on := dfa.Run(d, dfa.Run(d, 0, c[:at]), c[at:]); on != dfa.Run(d, 0, c) {
			t.Fatal(d, c, at, on)
		}
		if s := dfa.Run(d, 0, c); s >= 0 && plainTakes(d, 0, c) != (d.Take[s] == 1) {
			t.Fatal(d, c, s)
		}
	}
}

func TestP7_5Longest(t *testing.T) {
	abs := automaton([]int{0, 1}, row(1, -1), row(-1, 1))
	alone := automaton([]int{1}, row(-1, -1))
	none := automaton([]int{0}, row(0, 0))
	gaps := automaton([]int{1, 0, 0}, row(1, -1), row(2, -1), row(0, -1))
	for _, c := range []struct {
		d    api.Dfa
		list []int
		want int
	}{
		{abs, row(0, 1, 1, 0), 3}, {abs, nil, -1}, {abs, row(1, 0), -1}, {abs, row(0), 1}, {abs, row(0, 1, 1), 3}, {abs, row(0, 1, 2, 1), 2}, {abs, row(-1), -1},
		{alone, nil, 0}, {alone, row(0), 0}, {alone, row(7, 7), 0},
		{none, nil, -1}, {none, row(0, 1), -1},
		{gaps, row(0, 0), 0}, {gaps, row(0, 0, 0, 0), 3}, {gaps, row(0, 0, 0, 0, 0, 0, 1), 6},
	} {
		if got := dfa.Longest(c.d, c.list); got != c.want {
			t.Error(c, got)
		}
	}
	r := rand.New(rand.NewSource(75))
	for range 5000 {
		d := someDfa(r, 2, 5)
		c := someList(r, 3, 8)
		want := -1
		for n := range len(c) + 1 {
			if plainTakes(d, 0, c[:n]) {
				want = n
			}
		}
		if got := dfa.Longest(d, c); got != want {
			t.Fatal(d, c, got, want)
		}
	}
}

func TestP7_6LiveSure(t *testing.T) {
	for _, c := range []struct {
		d          api.Dfa
		live, sure string
	}{
		{automaton([]int{1}, row(0, 0)), "[0]", "[0]"},
		{automaton([]int{1}, row(0, -1)), "[0]", "[]"},
		{automaton([]int{0}, row(0, 0)), "[]", "[]"},
		{automaton([]int{1}, row(-1)), "[0]", "[]"},
		// 3 and 4 take all, 2 all but the empty list; 1 goes nowhere; to 5 nobody comes.
		{automaton([]int{0, 0, 0, 1, 1, 1}, row(1, 2), row(-1, 1), row(3, 4), row(4, 3), row(4, 4), row(3, 0)), "[0 2 3 4 5]", "[3 4]"},
		// From each one comes to 3, from which there is a way nowhere.
		{automaton([]int{1, 1, 1, 1}, row(1), row(2), row(3), row(-1)), "[0 1 2 3]", "[]"},
		{automaton([]int{1, 1, 1, 1}, row(1), row(2), row(3), row(0)), "[0 1 2 3]", "[0 1 2 3]"},
		{automaton([]int{1, 1, 1, 0}, row(1), row(2), row(3), row(0)), "[0 1 2 3]", "[]"},
	} {
		if live, sure := text(dfa.Live(c.d)), text(dfa.Sure(c.d)); live != c.live || sure != c.sure {
			t.Error(c.d, live, sure)
		}
	}
	r := rand.New(rand.NewSource(76))
	for range 3000 {
		d := someDfa(r, 2, 4)
		if r.Intn(2) == 0 {
			for s := range d.Take {
				d.Take[s] = min(1, r.Intn(6))
			}
		}
		lists := listsUpTo(2, len(d.Next))
		var live, sure []int
		for s := range d.Next {
			takes := func(l []int) bool { return plainTakes(d, s, l) }
			if slices.ContainsFunc(lists, takes) {
				live = append(live, s)
			}
			if !slices.ContainsFunc(lists, func(l []int) bool { return !takes(l) }) {
				sure = append(sure, s)
			}
		}
		if text(dfa.Live(d)) != text(live) || text(dfa.Sure(d)) != text(sure) {
			t.Fatal(d, dfa.Live(d), live, dfa.Sure(d), sure)
		}
	}
}

func of(t *testing.T, p api.Pattern, classes int) api.Dfa {
	t.Helper()
	d, e := dfa.Of(p, classes)
	if e != api.OK {
		t.Fatal(p, e)
	}
	return d
}

func TestExamples(t *testing.T) {
	a := many(set(0))
	all := many(set(0, 1))
	for _, c := range []struct {
		p    api.Pattern
		want string
	}{
		{then(set(0), many(set(1))), "{2 [[1 -1] [-1 1]] [0 1]}"},
		{a, "{2 [[0 -1]] [1]}"},
		{set(), "{2 [[-1 -1]] [0]}"},
		{all, "{2 [[0 0]] [1]}"},
	} {
		if d := of(t, c.p, 2); text(d) != c.want {
			t.Error(c.p, d)
		}
	}
	if l := dfa.Sure(of(t, all, 2)); text(l) != "[0]" {
		t.Error(l)
	}
	if l, ok := dfa.Apart(of(t, a, 2), of(t, some(set(0)), 2)); len(l) != 0 || !ok {
		t.Error(l, ok)
	}
	if d, e := dfa.Join(of(t, a, 2), of(t, some(set(0)), 2), 2); e != api.OK || text(d) != "{2 [[-1 -1]] [1]}" {
		t.Error(d, e)
	}
	if n := dfa.Longest(of(t, then(set(0), many(set(1))), 2), row(0, 1, 1, 0)); n != 3 {
		t.Error(n)
	}
	if b, e := dfa.Put(of(t, a, 2)); e != api.OK || string(b) != "\x02\x01\x01\x01\x00" {
		t.Error(b, e)
	}
}

// roomy is d with spare room behind each list, filled with what no call may touch.
func roomy(d api.Dfa) api.Dfa {
	m := api.Dfa{Classes: d.Classes, Take: append(slices.Clone(d.Take), -9)[:len(d.Take)]}
	for _, r := range d.Next {
		m.Next = append(m.Next, append(slices.Clone(r), -9, -9)[:len(r)])
	}
	m.Next = append(m.Next, row(-9))[:len(d.Next)]
	return m
}

// wholeText tells spare room, too.
func wholeText(d api.Dfa) string {
	out := text(d.Classes) + text(d.Take[:cap(d.Take)]) + text(d.Next[:cap(d.Next)])
	for _, r := range d.Next {
		out += text(r[:cap(r)])
	}
	return out
}

// answers are all lists, and all automata, that the calls answer of these.
func answers(a, b api.Dfa) ([][]int, []api.Dfa) {
	apart, _ := dfa.Apart(a, b)
	p, _ := dfa.Put(a)
	var ds []api.Dfa
	keep := func(d api.Dfa, e api.Errno) { ds = append(ds, d) }
	keep(dfa.Least(a))
	keep(dfa.Get(p))
	for how := range 4 {
		keep(dfa.Join(a, b, how))
		keep(dfa.Join(a, a, how))
	}
	return [][]int{dfa.Live(a), dfa.Sure(a), apart}, ds
}

func TestHandedInAndAnswered(t *testing.T) {
	r := rand.New(rand.NewSource(70))
	for range 500 {
		a, b := roomy(someDfa(r, 2, 5)), roomy(someDfa(r, 2, 5))
		c := append(someList(r, 2, 5), -9)
		wasA, wasB, wasC := wholeText(a), wholeText(b), text(c)
		lists, ds := answers(a, b)
		told := text(lists) + text(ds)
		l := c[:len(c)-1]
		ends := []int{dfa.Run(a, 0, l), dfa.Longest(a, l)}
		if dfa.Takes(a, l) != plainTakes(a, 0, l) || dfa.Same(a, b) != dfa.Same(b, a) {
			t.Fatal(a, b, l)
		}
		for _, d := range ds {
			if !spoil(d) {
				t.Fatal("two lists of one answer share memory", a, b)
			}
		}
		if !spoilLists(lists) {
			t.Fatal("two answers share memory", a)
		}
		if wholeText(a) != wasA || wholeText(b) != wasB || text(c) != wasC {
			t.Fatal("what was handed in has changed", wasA, wasB)
		}
		lists, ds = answers(a, b)
		if text(lists)+text(ds) != told || text(ends) != text([]int{dfa.Run(a, 0, l), dfa.Longest(a, l)}) {
			t.Fatal("another answer", a, b)
		}
	}
}

func TestManyAtOnce(t *testing.T) {
	a := of(t, many(or(set(1), then(set(0), some(set(2))))), 3)
	b := of(t, then(set(0), many(set(0, 2))), 3)
	lists, ds := answers(a, b)
	want := text(lists) + text(ds)
	var all sync.WaitGroup
	for range 8 {
		all.Go(func() {
			for range 30 {
				lists, ds := answers(a, b)
				if text(lists)+text(ds) != want {
					t.Error("another answer")
				}
			}
		})
	}
	all.Wait()
}
