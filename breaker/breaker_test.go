package breaker_test

import (
	"fmt"
	"math"
	"math/rand"
	"slices"
	"strings"
	"testing"

	"kerf/api"
	"kerf/breaker"
	"kerf/dfa"
	"kerf/props"
	"kerf/rules"
)

// refused is whether New refuses d and rs with that error and that number, and whether these are the chapter's.
func refused(t *testing.T, name string, d *props.Db, rs api.RuleSet, e api.Errno, n int) {
	t.Helper()
	b, gotE, gotN := breaker.New(d, rs)
	if b != nil || gotE != e || gotN != n {
		t.Errorf("%s: %v, %d, %d; want nil, %d, %d", name, b != nil, gotE, gotN, e, n)
	}
	if e2, n2 := plainError(d, rs); e2 != e || n2 != n {
		t.Errorf("%s: the chapter asks for %d, %d", name, e2, n2)
	}
}

func with(l ...api.Rule) api.RuleSet { return api.RuleSet{Rules: l} }

func TestP9_1Nil(t *testing.T) {
	refused(t, "no rules", nil, api.RuleSet{}, api.ErrArg, 0)
	refused(t, "good rules", nil, with(api.Rule{Left: set(0)}), api.ErrArg, 0)
	refused(t, "wrong rules", nil, with(api.Rule{}, api.Rule{Left: api.Pattern{Op: 9}}), api.ErrArg, 0)
	refused(t, "too many rules", nil, with(make([]api.Rule, 65)...), api.ErrArg, 0)
}

func TestP9_1NoRules(t *testing.T) {
	d := db(t, fewProps)
	for _, rest := range []bool{false, true} {
		rs := api.RuleSet{Rest: rest}
		b := made(t, d, rs)
		for _, s := range []string{"", "a", "\xff", "a\xffb\u4e00\U0001f600"} {
			held(t, b, d, rs, s)
		}
		unchanged(t, b, d, rs)
	}
	if got := made(t, d, api.RuleSet{}).Bounds("abc"); !slices.Equal(got, []int{0, 3}) {
		t.Errorf("Rest false: %v", got)
	}
	if got := made(t, d, api.RuleSet{Rest: true}).Bounds("abc"); !slices.Equal(got, []int{0, 1, 2, 3}) {
		t.Errorf("Rest true: %v", got)
	}
}

// TestP9_1Most has as many rules as may be, of which the last decides, and one more.
func TestP9_1Most(t *testing.T) {
	d, rs := db(t, fewProps), api.RuleSet{Rest: true}
	for range api.MaxRules - 1 {
		rs.Rules = append(rs.Rules, api.Rule{Break: true, Left: set(2), Right: set(2)})
	}
	rs.Rules = append(rs.Rules, api.Rule{Left: set(1), Right: set(1)})
	b := made(t, d, rs)
	held(t, b, d, rs, "aabbaxa\u00e1\U0001f600")
	unchanged(t, b, d, rs)
	if got := b.Rule("aa", 1); got != api.MaxRules-1 {
		t.Errorf("the last rule: %d", got)
	}
	rs.Rules = append(rs.Rules, api.Rule{})
	refused(t, "one more", d, rs, api.ErrMany, 0)
	rs.Rules[3].Left = api.Pattern{Op: 9}
	refused(t, "one more, and one that is not good", d, rs, api.ErrMany, 0)
}

func TestP9_1NotGood(t *testing.T) {
	d := db(t, fewProps)
	endless := make([]api.Pattern, 1)
	endless[0] = api.Pattern{Op: api.PatSome, Kids: endless}
	for i, x := range []struct {
		p api.Pattern
		e api.Errno
	}{
		{api.Pattern{Op: 7}, api.ErrForm}, {api.Pattern{Op: -1}, api.ErrForm}, {then(empty), api.ErrForm}, {or(), api.ErrForm},
		{api.Pattern{Classes: []int{0}}, api.ErrForm}, {api.Pattern{Op: api.PatMany}, api.ErrForm},
		{set(1, 0), api.ErrClass}, {set(1, 1), api.ErrClass}, {set(-1), api.ErrClass}, {many(set(0, 4)), api.ErrClass}, {set(63), api.ErrClass},
		{row(2049), api.ErrDeep}, {endless[0], api.ErrDeep},
	} {
		name := fmt.Sprint(i)
		good := api.Rule{Left: set(0), Right: set(3)}
		refused(t, name+" Left", d, with(api.Rule{Left: x.p}), x.e, 0)
		refused(t, name+" Right", d, with(api.Rule{Right: x.p}), x.e, 0)
		refused(t, name+" both", d, with(good, api.Rule{Left: x.p, Right: x.p}), x.e, 1)
		refused(t, name+" Start, End", d, with(good, api.Rule{}, api.Rule{Start: true, End: true, Left: x.p}), x.e, 2)
		refused(t, name+" second", d, with(good, api.Rule{Right: x.p}, api.Rule{Left: x.p}, api.Rule{Left: set(-5)}), x.e, 1)
	}
	refused(t, "Left ahead of Right", d, with(api.Rule{Left: set(4), Right: or()}), api.ErrClass, 0)
	refused(t, "Left ahead of Right", d, with(api.Rule{Left: or(), Right: set(4)}), api.ErrForm, 0)
	refused(t, "the first rule's Right ahead of the second's Left", d, with(api.Rule{Right: set(4)}, api.Rule{Left: or()}), api.ErrClass, 0)
	// What is not good comes ahead of what is refused, in whatever rule it is.
	refused(t, "good, but refused, ahead of it", d, with(api.Rule{Left: wide(12)}, api.Rule{}, api.Rule{Right: set(4)}), api.ErrClass, 2)
	refused(t, "good, but refused, ahead of it", d, with(api.Rule{Right: row(2047)}, api.Rule{Right: or()}), api.ErrForm, 1)
	// A class is there or not by the database.
	one := db(t, "")
	made(t, one, with(api.Rule{Left: set(0), Right: set(0)}))
	refused(t, "a class that it has not", one, with(api.Rule{Left: set(0), Right: set(1)}), api.ErrClass, 0)
}

// TestP9_1Deep has patterns beside which nothing more, or not that much more, may stand.
func TestP9_1Deep(t *testing.T) {
	d := db(t, fewProps)
	for nodes := 2043; nodes <= 2048; nodes++ {
		p := row(nodes)
		for _, x := range []struct {
			name string
			r    api.Rule
			fits int // so many nodes at most
		}{
			{"Left", api.Rule{Left: p}, 2045},
			{"Right", api.Rule{Right: p}, 2045},
			{"Start", api.Rule{Start: true, Left: p}, 2048},
			{"End", api.Rule{End: true, Right: p}, 2048},
			{"Start, Right", api.Rule{Start: true, Left: p, Right: p}, 2045},
			{"End, Left", api.Rule{End: true, Left: p, Right: p}, 2045},
			{"both", api.Rule{Start: true, End: true, Left: p, Right: p}, 2048},
		} {
			rs := with(api.Rule{Left: set(2)}, x.r)
			if nodes > x.fits {
				refused(t, x.name, d, rs, api.ErrDeep, 1)
				continue
			}
			b := made(t, d, rs)
			unchanged(t, b, d, rs)
			held(t, b, d, rs, "abab")
		}
	}
}

// TestP9_1Many has rules whose automata have too many states: the left one's error comes ahead of the right one's, rule by rule.
func TestP9_1Many(t *testing.T) {
	d := db(t, fewProps)
	many, deep, back := wide(10), row(2046), wide(10)
	slices.Reverse(back.Kids)
	if _, e := dfa.Of(then(all(4), many), 4); e != api.ErrMany {
		t.Fatalf("not many: %d", e)
	}
	refused(t, "Left", d, with(api.Rule{Left: many}), api.ErrMany, 0)
	refused(t, "Right", d, with(api.Rule{}, api.Rule{Right: back}), api.ErrMany, 1)
	refused(t, "Left ahead of Right", d, with(api.Rule{Left: many, Right: deep}), api.ErrMany, 0)
	refused(t, "Left ahead of Right", d, with(api.Rule{Left: deep, Right: back}), api.ErrDeep, 0)
	refused(t, "rule by rule", d, with(api.Rule{Right: deep}, api.Rule{Left: many}), api.ErrDeep, 0)
	refused(t, "rule by rule", d, with(api.Rule{}, api.Rule{Right: back}, api.Rule{Left: deep}), api.ErrMany, 1)
	refused(t, "End with Left", d, with(api.Rule{End: true, Left: many}), api.ErrMany, 0)
	refused(t, "Start with Right", d, with(api.Rule{Start: true, Right: back}), api.ErrMany, 0)
	for i, rs := range []api.RuleSet{
		with(api.Rule{Left: back}), with(api.Rule{Right: many}), // the other way round they are small
		with(api.Rule{Start: true, Left: many}), with(api.Rule{End: true, Right: back}),
		with(api.Rule{Start: true, End: true, Left: many, Right: back}),
		with(api.Rule{Left: wide(7), Break: true}),
	} {
		b := made(t, d, rs)
		unchanged(t, b, d, rs)
		held(t, b, d, rs, strings.Repeat("ab", i)+"axbxbxbxbxbab"+strings.Repeat("b", i))
	}
}

// TestP9_1Hair goes from what is taken to what is refused, step by step.
func TestP9_1Hair(t *testing.T) {
	d := db(t, fewProps)
	taken := 0
	for others := 1; others < 13; others++ {
		many, back := wide(others), wide(others)
		slices.Reverse(back.Kids)
		for _, rs := range []api.RuleSet{with(api.Rule{Left: many}), with(api.Rule{Right: back})} {
			wantE, wantN := plainError(d, rs)
			b, e, n := breaker.New(d, rs)
			if e != wantE || n != wantN || (b != nil) != (e == api.OK) {
				t.Errorf("%d others: %v, %d, %d; want %d, %d", others, b != nil, e, n, wantE, wantN)
			}
			if e == api.OK {
				taken++
				unchanged(t, b, d, rs)
			}
		}
	}
	if taken < 16 || taken > 22 {
		t.Errorf("%d are taken", taken)
	}
}

func TestP9_1Automata(t *testing.T) {
	d := db(t, fewProps)
	a, may := set(1), api.Pattern{Op: api.PatMay, Kids: []api.Pattern{set(2)}}
	for _, left := range []api.Pattern{empty, a, then(a, set(2)), many(a), may, set(), or(a, then(set(2), many(set(3)), a))} {
		for _, right := range []api.Pattern{empty, a, then(a, set(2)), many(a), may, set(), or(a, then(set(2), many(set(3)), a))} {
			for flags := range 8 {
				rs := with(api.Rule{Break: flags&1 != 0, Start: flags&2 != 0, End: flags&4 != 0, Left: left, Right: right})
				rs.Rest = flags&1 == 0
				b := made(t, d, rs)
				unchanged(t, b, d, rs)
				for _, s := range []string{"", "a", "ab", "ba", "a\u00e1b\xffa", "\xffb", "bab", "xaabx", "b\ufffd\u0301a\u4e00\x80a"} {
					held(t, b, d, rs, s)
				}
			}
		}
	}
}

func TestP9_2Parse(t *testing.T) {
	b := parsed(t, "'a' ; A # x\n\n'b' ; B\n", "# x\nA ~ B\n^ B / . $\n\nrest ~\n")
	want := api.RuleSet{Rules: []api.Rule{{Left: set(1), Right: set(2)}, {Break: true, Start: true, End: true, Left: set(2), Right: set(0, 1, 2)}}}
	unchanged(t, b, b.Db(), want)
	if got := b.Db().Names(); !slices.Equal(got, []string{"Other", "A", "B"}) {
		t.Errorf("names %q", got)
	}
	held(t, b, b.Db(), want, "ba")
	if b := parsed(t, "", ""); len(b.Rules().Rules) != 0 || !b.Rules().Rest || len(b.Db().Names()) != 1 {
		t.Errorf("of nothing: %v, %q", b.Rules(), b.Db().Names())
	}
}

func TestP9_2Errors(t *testing.T) {
	const good, wideLeft = "'a' ; A\n", "A . . . . . . . . . . ~"
	for i, x := range []struct {
		db, rules string
		e         api.Errno
		n         int
	}{
		// The database's come ahead of the rules'.
		{"'a'", "", api.ErrLine, 1},
		{"'a' ; A\n\n'b'", "B ~", api.ErrLine, 3},
		{"'a' ; A\n'a' ; B", "~ ~", api.ErrClash, 2},
		{"'a' ; Other", wideLeft, api.ErrName, 1},
		{"\n'a ; A", "", api.ErrRune, 2},
		{strings.Repeat(" ", api.MaxProps+1), "A ~", api.ErrLong, 0},
		// The rules' line is told as -1 less it.
		{good, "\nB ~", api.ErrClass, -3},
		{good, "B ~", api.ErrClass, -2},
		{good, "A ~\nA ~\n\n\n~ (", api.ErrShort, -6},
		{good, "A A", api.ErrRule, -2},
		{good, "A ~ A\nrest ~\nA ~", api.ErrRule, -4},
		{good, "A ~ /", api.ErrRule, -2},
		{good, "* ~", api.ErrSyntax, -2},
		{good, strings.Repeat(" ", api.MaxRuleText+1), api.ErrLong, -1},
		{good, strings.Repeat("A ~ A\n", api.MaxRules+1), api.ErrMany, -2 - api.MaxRules},
		{good, wideLeft + "\nB ~", api.ErrClass, -3},
		// New's number is that of a rule.
		{good, wideLeft, api.ErrMany, 0},
		{good, "\n# x\nA ~ A\n\nA ~\n~ . . . . . . . . . . A", api.ErrMany, 2},
		{good, "A ~ A\n" + wideLeft + "\n" + wideLeft, api.ErrMany, 1},
	} {
		b, e, n := breaker.Parse(x.db, x.rules)
		if b != nil || e != x.e || n != x.n {
			t.Errorf("%d: %v, %d, %d; want nil, %d, %d", i, b != nil, e, n, x.e, x.n)
		}
	}
	parsed(t, good, "A ~")
	parsed(t, good+strings.Repeat(" ", api.MaxProps-len(good)), strings.Repeat(" ", api.MaxRuleText))
	parsed(t, good, "^ "+wideLeft)
}

func TestP9_7Automata(t *testing.T) {
	d := db(t, fewProps)
	rs := with(api.Rule{Left: set(1), Right: then(set(2), set(3))}, api.Rule{Break: true, Start: true, Left: set(0)})
	b := made(t, d, rs)
	zero := func(x api.Dfa) bool { return x.Classes == 0 && x.Next == nil && x.Take == nil }
	for _, i := range []int{math.MinInt, -2, -1, 2, 3, 64, math.MaxInt} {
		if x := b.Left(i); !zero(x) {
			t.Errorf("Left(%d): %v", i, x)
		}
		if x := b.Right(i); !zero(x) {
			t.Errorf("Right(%d): %v", i, x)
		}
	}
	if zero(b.Left(0)) || zero(b.Left(1)) || zero(b.Right(0)) || zero(b.Right(1)) {
		t.Errorf("none")
	}
	none := made(t, d, api.RuleSet{})
	if !zero(none.Left(0)) || !zero(none.Right(0)) {
		t.Errorf("of no rules: %v, %v", none.Left(0), none.Right(0))
	}
	// What is answered may be changed by who has it.
	x, y := b.Left(0), b.Right(0)
	for i := range 2 {
		spoilDfa(b.Left(i))
		spoilDfa(b.Right(i))
	}
	unchanged(t, b, d, rs)
	if !dfa.Same(x, b.Left(0)) || !dfa.Same(y, b.Right(0)) {
		t.Errorf("an answer of old has changed")
	}
	// The rows of one answer, each to its end and beyond, are apart.
	x = b.Right(0)
	for i := range x.Next {
		x.Next[i] = append(x.Next[i], 99)
		x.Next[i] = x.Next[i][:4]
	}
	if want := b.Right(0); !dfa.Same(x, want) {
		t.Errorf("rows that share: %v; want %v", x, want)
	}
	held(t, b, d, rs, "abx\u0301a")
}

func TestP9_7Rules(t *testing.T) {
	d := db(t, fewProps)
	text := "^ A (B | C)* A? ~ B+ C $\nA / A B\n(A | B) C ~ . [A C]*\nrest ~"
	rs, e, _ := rules.Parse(text, d.Names())
	if e != api.OK {
		t.Fatal(e)
	}
	rs.Rules = append(make([]api.Rule, 0, 9), rs.Rules...) // with spare room
	want := copied(rs)
	b := made(t, d, rs)
	if !same(rs, want) {
		t.Errorf("New changes what it is given: %v", rs)
	}
	for i := 3; i < 9; i++ {
		if r := rs.Rules[:9][i]; r.Break || r.Start || r.End || r.Left.Op != 0 || r.Right.Op != 0 {
			t.Errorf("New writes into spare room: %v", r)
		}
	}
	const s = "abca\xff\xffa\u4e00\u0301aab"
	bounds := b.Bounds(s)
	spoil(rs)
	unchanged(t, b, d, want)
	held(t, b, d, want, s)
	old := b.Rules()
	spoil(b.Rules())
	if !same(old, want) {
		t.Errorf("an answer of old has changed: %v", old)
	}
	unchanged(t, b, d, want)
	held(t, b, d, want, s)
	if got := b.Bounds(s); !slices.Equal(got, bounds) {
		t.Errorf("Bounds %v; want %v", got, bounds)
	}
	if other := db(t, fewProps); made(t, other, want).Db() != other {
		t.Errorf("another database")
	}
}

func TestP9_7Nil(t *testing.T) {
	var b *breaker.Breaker
	for _, s := range []string{"", "a", "ab\xff", "\u4e00"} {
		if got := b.Bounds(s); len(got) != 0 {
			t.Errorf("Bounds %v", got)
		}
		if b.Each(s) == nil || b.Back(s) == nil {
			t.Fatalf("nil to go over")
		}
		if l := append(pairs(b.Each(s)), pairs(b.Back(s))...); len(l) != 0 {
			t.Errorf("pieces %v", l)
		}
		if b.Count(s) != 0 {
			t.Errorf("Count %d", b.Count(s))
		}
		for _, at := range around(s) {
			from, to := b.Around(s, at)
			if b.Is(s, at) || b.Next(s, at) != 0 || b.Prev(s, at) != 0 || from != 0 || to != 0 || b.Rule(s, at) != -1 {
				t.Errorf("%q at %d: %v, %d, %d, %d, %d, %d", s, at, b.Is(s, at), b.Next(s, at), b.Prev(s, at), from, to, b.Rule(s, at))
			}
		}
	}
	for _, i := range []int{-1, 0, 1, math.MaxInt} {
		if x, y := b.Left(i), b.Right(i); x.Classes != 0 || x.Next != nil || x.Take != nil || y.Classes != 0 || y.Next != nil || y.Take != nil {
			t.Errorf("automata %v, %v", x, y)
		}
	}
	if rs := b.Rules(); rs.Rules != nil || rs.Rest {
		t.Errorf("Rules %v", rs)
	}
	if b.Db() != nil {
		t.Errorf("a database")
	}
}

// TestP9_10 holds each rule's two automata against chapter 8 at each place.
func TestP9_10(t *testing.T) {
	r := rand.New(rand.NewSource(910))
	d := db(t, fewProps)
	for range 400 {
		rs := someRules(r, 4, 4)
		b := made(t, d, rs)
		for range 4 {
			c := d.Of(someText(r, 7))
			turned := slices.Clone(c)
			slices.Reverse(turned)
			for i, rule := range rs.Rules {
				for k := range len(c) + 1 {
					both := dfa.Takes(b.Left(i), c[:k]) && dfa.Takes(b.Right(i), turned[:len(c)-k])
					if both != rules.Applies(rule, c, k) {
						t.Fatalf("%v at %d of %v: %v", rule, k, c, both)
					}
				}
			}
		}
	}
}
