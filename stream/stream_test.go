package stream_test

import (
	"fmt"
	"math/rand"
	"slices"
	"strings"
	"testing"

	"kerf/api"
	"kerf/breaker"
	"kerf/props"
	"kerf/rules"
	"kerf/stream"
)

const (
	linesProps = "U+000D ; Cr\nU+000A ; Lf\nU+0300-U+036F ; Mark\n"
	linesRules = "Cr ~ Lf\n(Cr | Lf) /\n/ (Cr | Lf)\n. ~ Mark\n"
)

// step is a piece, the places that are told then, and how many are open and how many bytes held.
type step struct {
	piece string
	told  []int
	open  int
	held  int
}

// steps writes pieces, and ends the text; the same is asked of the plain reading.
func steps(t *testing.T, x *stream.Stream, d *props.Db, rs api.RuleSet, l []step, end ...int) {
	t.Helper()
	var pieces []string
	told, long := 0, 0
	for i, s := range l {
		got := x.Write([]byte(s.piece))
		told, long = told+len(got), long+len(s.piece)
		if !slices.Equal(got, s.told) || x.Open() != s.open || x.Held() != s.held {
			t.Errorf("piece %d, %q: %v, Open %d, Held %d; want %v, %d, %d", i, s.piece, got, x.Open(), x.Held(), s.told, s.open, s.held)
		}
		if x.Told() != told || x.Len() != long {
			t.Errorf("piece %d, %q: Told %d, Len %d; want %d, %d", i, s.piece, x.Told(), x.Len(), told, long)
		}
		pieces = append(pieces, s.piece)
	}
	if got := x.End(); !slices.Equal(got, end) {
		t.Errorf("%v: End %v; want %v", l, got, end)
	}
	if x.Len() != 0 || x.Held() != 0 || x.Open() != 0 || x.Told() != 0 {
		t.Errorf("behind End: %d, %d, %d, %d", x.Len(), x.Held(), x.Open(), x.Told())
	}
	held(t, x, d, rs, pieces...)
}

// refused is whether New refuses d and rs with that error.
func refused(t *testing.T, name string, d *props.Db, rs api.RuleSet, e api.Errno) {
	t.Helper()
	if x, got := stream.New(d, rs); x != nil || got != e {
		t.Errorf("%s: %v, %d; want nil, %d", name, x != nil, got, e)
	}
	if d != nil {
		if want, _ := rules.Check(rs, len(d.Names())); want != e {
			t.Errorf("%s: rules.Check asks for %d", name, want)
		}
	}
}

func TestP10_1Nil(t *testing.T) {
	refused(t, "no rules", nil, api.RuleSet{}, api.ErrArg)
	refused(t, "good rules", nil, with(api.Rule{Left: set(0)}), api.ErrArg)
	refused(t, "wrong rules", nil, with(api.Rule{Left: api.Pattern{Op: 9}}), api.ErrArg)
	refused(t, "too many rules", nil, with(make([]api.Rule, 65)...), api.ErrArg)
}

func TestP10_1Refused(t *testing.T) {
	d := db(t, fewProps)
	endless := make([]api.Pattern, 1)
	endless[0] = api.Pattern{Op: api.PatSome, Kids: endless}
	good := api.Rule{Left: set(0), Right: set(4)}
	for i, x := range []struct {
		p api.Pattern
		e api.Errno
	}{
		{api.Pattern{Op: 7}, api.ErrForm}, {api.Pattern{Op: -1}, api.ErrForm}, {then(empty), api.ErrForm}, {or(), api.ErrForm},
		{api.Pattern{Classes: []int{0}}, api.ErrForm}, {api.Pattern{Op: api.PatMay}, api.ErrForm},
		{set(1, 0), api.ErrClass}, {set(1, 1), api.ErrClass}, {set(-1), api.ErrClass}, {many(set(0, 5)), api.ErrClass}, {set(64), api.ErrClass},
		{row(2049), api.ErrDeep}, {endless[0], api.ErrDeep},
	} {
		name := fmt.Sprint(i)
		refused(t, name+" Left", d, with(api.Rule{Left: x.p}), x.e)
		refused(t, name+" Right", d, with(good, api.Rule{Right: x.p}), x.e)
		refused(t, name+" Start, End", d, with(good, api.Rule{}, api.Rule{Start: true, End: true, Left: x.p}), x.e)
		refused(t, name+" the first", d, with(good, api.Rule{Right: x.p}, api.Rule{Left: or()}, api.Rule{Left: set(-5)}), x.e)
	}
	refused(t, "Left ahead of Right", d, with(api.Rule{Left: set(5), Right: or()}), api.ErrClass)
	refused(t, "many ahead of all", d, with(make([]api.Rule, 65)...), api.ErrMany)
	one := db(t, "")
	refused(t, "a class that it has not", one, with(api.Rule{Left: set(0), Right: set(1)}), api.ErrClass)
	held(t, made(t, one, with(api.Rule{Right: set(0)})), one, with(api.Rule{Right: set(0)}), "a", "\xff")
}

func TestP10_1NoRules(t *testing.T) {
	d := db(t, fewProps)
	x := made(t, d, api.RuleSet{})
	steps(t, x, d, api.RuleSet{}, []step{{"a\u00e1", []int{0}, 0, 0}, {"b\xff", nil, 0, 0}}, 5)
	x = made(t, d, api.RuleSet{Rest: true})
	steps(t, x, d, api.RuleSet{Rest: true}, []step{{"a\u00e1", []int{0, 1}, 0, 0}, {"b\xff", []int{3, 4}, 0, 0}}, 5)
}

// TestP10_1Most has as many rules as may be, of which the last decides, and one more.
func TestP10_1Most(t *testing.T) {
	d, rs := db(t, fewProps), api.RuleSet{Rest: true}
	for range api.MaxRules - 1 {
		rs.Rules = append(rs.Rules, api.Rule{Break: true, Left: set(2), Right: set(2)})
	}
	rs.Rules = append(rs.Rules, api.Rule{Left: set(1), Right: set(1)})
	steps(t, made(t, d, rs), d, rs, []step{{"a", []int{0}, 0, 0}, {"a", nil, 0, 0}, {"bb", []int{2, 3}, 0, 0}}, 4)
	rs.Rules = append(rs.Rules, api.Rule{})
	refused(t, "one more", d, rs, api.ErrMany)
	rs.Rules[3].Left = api.Pattern{Op: 9}
	refused(t, "one more, and one that is not good", d, rs, api.ErrMany)
}

// TestP10_1Great has rules that chapter 9 refuses: here nothing but rules.Check's errors counts.
func TestP10_1Great(t *testing.T) {
	d := db(t, fewProps)
	wide := then(set(1))
	for range 12 {
		wide.Kids = append(wide.Kids, set(0, 1, 2, 3))
	}
	back := then(slices.Clone(wide.Kids)...)
	slices.Reverse(back.Kids)
	long := then(slices.Repeat([]api.Pattern{set(0, 1, 2, 3)}, 2047)...)
	for i, r := range []api.Rule{
		{Left: wide}, {Right: back}, {Left: wide, Right: back}, {Left: row(2048)}, {Right: row(2048)}, {Left: long}, {Right: long},
		{Start: true, End: true, Left: row(2048), Right: long},
	} {
		rs := api.RuleSet{Rules: []api.Rule{r}, Rest: true}
		if _, e, _ := breaker.New(d, rs); e == api.OK && i < 7 {
			t.Fatalf("rule %d: chapter 9 takes it", i)
		}
		held(t, made(t, d, rs), d, rs, by("axbxbxbxbxbabxaxabbaxab", 5)...)
	}
}

// TestP10_1Kept changes the rules behind New.
func TestP10_1Kept(t *testing.T) {
	d := db(t, fewProps)
	const text = "^ A (B | C)* A? ~ B+ C $\nA / A B\n(A | B) C ~ . [A C]*\n/ B B\nrest ~"
	rs, want := read(t, d, text), read(t, d, text)
	rs.Rules = append(make([]api.Rule, 0, 9), rs.Rules...) // with spare room
	x := made(t, d, rs)
	if !rules.Equal(rs, want) {
		t.Errorf("New changes what it is given: %v", rs)
	}
	for _, r := range rs.Rules[4:9] {
		if r.Break || r.Start || r.End || r.Left.Op != 0 || r.Right.Op != 0 {
			t.Errorf("New writes into spare room: %v", r)
		}
	}
	spoil(rs)
	held(t, x, d, want, "ab", "bc\u0301", "abb\xff", "aabbb\u0301")
	x = made(t, d, want)
	x.Write([]byte("ab"))
	y := made(t, d, want)
	y.Write([]byte("bbb\xe2"))
	if x.Len() != 2 || x.Held() != 0 || x.Open() != 1 || x.Told() != 1 {
		t.Errorf("another stream: %d, %d, %d, %d", x.Len(), x.Held(), x.Open(), x.Told())
	}
}

// TestP10_2Examples are those of the chapter.
func TestP10_2Examples(t *testing.T) {
	d := db(t, linesProps)
	rs := read(t, d, linesRules)
	x := made(t, d, rs)
	steps(t, x, d, rs, []step{{"a", []int{0}, 0, 0}, {"\r", []int{1}, 0, 0}, {"\n", nil, 0, 0}, {"b", []int{3}, 0, 0}}, 4)
	steps(t, x, d, rs, []step{{"a", []int{0}, 0, 0}, {"\xcc", nil, 0, 1}, {"\x81", nil, 0, 0}}, 3)
	d = db(t, "'a'-'z' ; Letter\n' ' ; Space\n'0'-'9' ; Digit\n")
	rs = read(t, d, "Letter / Space* Digit\nrest ~")
	x = made(t, d, rs)
	steps(t, x, d, rs, []step{{"a  ", []int{0}, 2, 0}, {"1", []int{1}, 0, 0}}, 4)
	steps(t, x, d, rs, []step{{"a  ", []int{0}, 2, 0}, {"b", nil, 0, 0}}, 4)
	// The first two examples of the whole.
	d = db(t, api.GraphemeProps)
	rs = read(t, d, api.GraphemeRules)
	x = made(t, d, rs)
	steps(t, x, d, rs, []step{{"\x61\xe2\x82\x0a", []int{0, 1, 2, 3}, 0, 0}}, 4)
	steps(t, x, d, rs, []step{{"\x65", []int{0}, 0, 0}, {"\xcc", nil, 0, 1}, {"\x81\x0a", []int{3}, 0, 0}}, 4)
}

// TestP10_2Known has the cases of section 10.1, each by hand: a piece a class, and what is told then.
func TestP10_2Known(t *testing.T) {
	d := db(t, fewProps)
	for _, x := range []struct {
		rules string
		l     []step
		end   []int
	}{
		// Matched by c[at:at], by one class, by more.
		{"A ~", []step{{"a", []int{0}, 0, 0}, {"b", nil, 0, 0}, {"b", []int{2}, 0, 0}}, []int{3}},
		{"A ~ B?", []step{{"a", []int{0}, 0, 0}, {"x", nil, 0, 0}, {"b", []int{2}, 0, 0}}, []int{3}},
		{"A ~ B", []step{{"a", []int{0}, 0, 0}, {"b", nil, 0, 0}, {"b", []int{2}, 0, 0}}, []int{3}},
		{"A ~ B", []step{{"a", []int{0}, 0, 0}, {"x", []int{1}, 0, 0}}, []int{2}},
		{"A ~ B+", []step{{"a", []int{0}, 0, 0}, {"b", nil, 0, 0}, {"b", []int{2}, 0, 0}}, []int{3}},
		{"A ~ B B", []step{{"a", []int{0}, 0, 0}, {"b", nil, 1, 0}, {"b", []int{2}, 0, 0}}, []int{3}},
		{"A ~ B B", []step{{"a", []int{0}, 0, 0}, {"b", nil, 1, 0}, {"x", []int{1, 2}, 0, 0}}, []int{3}},
		{"A ~ B B", []step{{"a", []int{0}, 0, 0}, {"b", nil, 1, 0}}, []int{1, 2}},
		{"A ~ B B B B", []step{{"a", []int{0}, 0, 0}, {"b", nil, 1, 0}, {"b", nil, 2, 0}, {"b", nil, 3, 0}, {"b", []int{2, 3, 4}, 0, 0}}, []int{5}},
		// Dead at once, or later, because nothing that may come would be matched.
		{"A ~ B []", []step{{"a", []int{0}, 0, 0}, {"b", []int{1}, 0, 0}}, []int{2}},
		{"A ~ [] B", []step{{"a", []int{0}, 0, 0}, {"b", []int{1}, 0, 0}}, []int{2}},
		{"A ~ []+ | B (C | B [])", []step{{"a", []int{0}, 0, 0}, {"b", nil, 1, 0}, {"b", []int{1, 2}, 0, 0}}, []int{3}},
		{"A ~ B* []", []step{{"a", []int{0}, 0, 0}, {"bb", []int{1, 2}, 0, 0}}, []int{3}},
		// Open by a class that no rune has.
		{"A ~ B D", []step{{"a", []int{0}, 0, 0}, {"b", nil, 1, 0}, {"b", []int{1, 2}, 0, 0}}, []int{3}},
		// Settled although rules are open, which say the same; open where they don't.
		{"A / B B\nA / B C", []step{{"a", []int{0}, 0, 0}, {"b", []int{1}, 0, 0}}, []int{2}},
		{"A ~ B B\nA ~ B C\nrest ~", []step{{"a", []int{0}, 0, 0}, {"b", nil, 0, 0}}, []int{2}},
		{"A ~ B B\nA / B C\nrest ~", []step{{"a", []int{0}, 0, 0}, {"b", nil, 1, 0}, {"b", nil, 0, 0}}, []int{3}},
		{"A ~ B B\nA / B C\nrest ~", []step{{"a", []int{0}, 0, 0}, {"b", nil, 1, 0}, {"\u0301", []int{1}, 0, 0}}, []int{4}},
		{"A / B B\nA / B .* C\nrest ~", []step{{"a", []int{0}, 0, 0}, {"b", nil, 1, 0}, {"x", nil, 2, 0}, {"\u0301", []int{1}, 0, 0}}, []int{5}},
		// Rules ahead of the first that has matched, and behind it.
		{"A ~ B B\n~ B", []step{{"a", []int{0}, 0, 0}, {"b", nil, 0, 0}}, []int{2}},
		{"A / B B\n~ B", []step{{"a", []int{0}, 0, 0}, {"b", nil, 1, 0}, {"b", []int{1}, 0, 0}}, []int{3}},
		{"A / B B\n~ B", []step{{"a", []int{0}, 0, 0}, {"b", nil, 1, 0}, {"x", []int{2}, 0, 0}}, []int{3}},
		{"~ B\nA / B B\nA / B .*", []step{{"a", []int{0}, 0, 0}, {"b", nil, 0, 0}, {"b", nil, 0, 0}}, []int{3}},
		{"A ~ B .* C\nA / B B\n~ B C", []step{{"a", []int{0}, 0, 0}, {"b", nil, 1, 0}, {"b", nil, 2, 0}, {"x", nil, 3, 0}, {"\u0301", []int{2, 3, 4}, 0, 0}}, []int{6}},
		{"A ~ B .* C\nA / B B\n~ B C", []step{{"a", []int{0}, 0, 0}, {"b", nil, 1, 0}, {"b", nil, 2, 0}}, []int{1, 2, 3}},
		// Of two that are open the one behind matches first; the one ahead may still.
		{"A ~ B B C\nA / B B", []step{{"a", []int{0}, 0, 0}, {"b", nil, 1, 0}, {"b", nil, 2, 0}, {"b", []int{1, 2, 3}, 0, 0}}, []int{4}},
		{"A ~ B B C\nA / B B", []step{{"a", []int{0}, 0, 0}, {"b", nil, 1, 0}, {"b", nil, 2, 0}, {"\u0301", []int{2, 3}, 0, 0}}, []int{5}},
		// What was run from two places has come to the same states; the first of them is settled, the other is not.
		{"Other / B A B Other\n~ (B A B | A B) Other* C", []step{{"x", []int{0}, 0, 0}, {"b", nil, 1, 0}, {"a", nil, 2, 0}, {"b", nil, 3, 0}, {"x", []int{1}, 3, 0}, {"x", nil, 4, 0}, {"\u0301", []int{3, 4, 5, 6}, 0, 0}}, []int{8}},
		{"Other / A B A Other\n~ (B A | A B A) Other* C", []step{{"x", []int{0}, 0, 0}, {"a", nil, 1, 0}, {"b", nil, 2, 0}, {"a", nil, 3, 0}, {"x", []int{1}, 3, 0}, {"x", nil, 4, 0}, {"\u0301", []int{3, 4, 5, 6}, 0, 0}}, []int{8}},
		// A place that is settled waits for one ahead of it.
		{"A / B* C\nB ~\nrest ~", []step{{"a", []int{0}, 0, 0}, {"b", nil, 1, 0}, {"b", nil, 2, 0}, {"a", nil, 0, 0}, {"b", nil, 1, 0}, {"\u0301", []int{4}, 0, 0}}, []int{7}},
	} {
		t.Run(x.rules, func(t *testing.T) {
			rs := read(t, d, x.rules)
			steps(t, made(t, d, rs), d, rs, x.l, x.end...)
		})
	}
}

// TestP10_2Ends has the same of rules with Start, with End, and with patterns that match the empty list.
func TestP10_2Ends(t *testing.T) {
	d := db(t, fewProps)
	for _, x := range []struct {
		rules string
		l     []step
		end   []int
	}{
		// End: open until the end, or dead; never matched by what has come.
		{"A ~ B $", []step{{"a", []int{0}, 0, 0}, {"b", nil, 1, 0}}, []int{2}},
		{"A ~ B $", []step{{"a", []int{0}, 0, 0}, {"b", nil, 1, 0}, {"b", []int{1, 2}, 0, 0}}, []int{3}},
		{"A ~ B $", []step{{"a", []int{0}, 0, 0}, {"x", []int{1}, 0, 0}}, []int{2}},
		{"A ~ B+ $", []step{{"a", []int{0}, 0, 0}, {"b", nil, 1, 0}, {"b", nil, 2, 0}}, []int{2, 3}},
		{"A ~ .* $", []step{{"a", []int{0}, 0, 0}, {"x", nil, 1, 0}, {"b\xff", nil, 3, 0}}, []int{2, 3, 4}},
		{"A ~ .* $\nrest ~", []step{{"a", []int{0}, 0, 0}, {"x", nil, 0, 0}}, []int{2}},
		{"A / B B $\nrest ~", []step{{"a", []int{0}, 0, 0}, {"b", nil, 1, 0}}, []int{2}},
		{"A / B B $\nrest ~", []step{{"a", []int{0}, 0, 0}, {"b", nil, 1, 0}, {"b", nil, 2, 0}}, []int{1, 3}},
		{"A ~ B $\nA / B\nrest ~", []step{{"a", []int{0}, 0, 0}, {"b", nil, 1, 0}}, []int{2}},
		{"A / B\nA ~ B $\nrest ~", []step{{"a", []int{0}, 0, 0}, {"b", []int{1}, 0, 0}}, []int{2}},
		{"A ~ C $", []step{{"a", []int{0}, 0, 0}, {"\xe2\x82", nil, 0, 2}}, []int{1, 2, 3}},
		{"A ~ C C $", []step{{"a", []int{0}, 0, 0}, {"\xe2\x82", nil, 0, 2}}, []int{2, 3}},
		// A Right that matches the empty list: with End that is none of a place that is told of.
		{"~ $", []step{{"ab", []int{0, 1}, 0, 0}}, []int{2}},
		{"~ B? $", []step{{"ab", []int{0}, 1, 0}}, []int{2}},
		{"~ B? $", []step{{"ab", []int{0}, 1, 0}, {"b", []int{1}, 1, 0}}, []int{3}},
		// Start.
		{"^ A ~", []step{{"a", []int{0}, 0, 0}, {"a", nil, 0, 0}, {"a", []int{2}, 0, 0}}, []int{3}},
		{"^ ~", []step{{"ab", []int{0, 1}, 0, 0}}, []int{2}},
		{"^ A* ~ B", []step{{"aa", []int{0, 1}, 0, 0}, {"b", nil, 0, 0}, {"b", []int{3}, 0, 0}}, []int{4}},
		{"^ (A A)* ~ A A", []step{{"a", []int{0}, 0, 0}, {"a", []int{1}, 0, 0}, {"a", nil, 1, 0}, {"a", []int{3}, 0, 0}}, []int{4}},
		{"A B ~", []step{{"aba", []int{0, 1}, 0, 0}, {"b", []int{3}, 0, 0}, {"b", nil, 0, 0}}, []int{5}},
		// Both.
		{"^ A ~ B $", []step{{"a", []int{0}, 0, 0}, {"b", nil, 1, 0}}, []int{2}},
		{"^ A ~ B $", []step{{"xab", []int{0, 1, 2}, 0, 0}}, []int{3}},
		{"^ A ~ B $", []step{{"ab", []int{0}, 1, 0}, {"\xff", []int{1, 2}, 0, 0}}, []int{3}},
		{"^ .* / .* $\nrest ~", []step{{"ab", []int{0}, 1, 0}, {"b", nil, 2, 0}}, []int{1, 2, 3}},
		// A Left, a Right, or both that match the empty list.
		{"~ B", []step{{"b", []int{0}, 0, 0}, {"b", nil, 0, 0}, {"x", []int{2}, 0, 0}}, []int{3}},
		{"B? ~ A", []step{{"a", []int{0}, 0, 0}, {"a", nil, 0, 0}}, []int{2}},
		{"B ~", []step{{"b", []int{0}, 0, 0}, {"b", nil, 0, 0}, {"x", nil, 0, 0}, {"x", []int{3}, 0, 0}}, []int{4}},
		{"~", []step{{"abx", []int{0}, 0, 0}, {"\xff", nil, 0, 0}}, []int{4}},
		{"/\nrest ~", []step{{"abx", []int{0, 1, 2}, 0, 0}, {"\xff", []int{3}, 0, 0}}, []int{4}},
		{"A* ~ B*", []step{{"xyz", []int{0}, 0, 0}}, []int{3}},
		// A Left that matches nothing.
		{"[] ~\nA [] ~ B B", []step{{"ab", []int{0, 1}, 0, 0}}, []int{2}},
	} {
		t.Run(x.rules, func(t *testing.T) {
			rs := read(t, d, x.rules)
			steps(t, made(t, d, rs), d, rs, x.l, x.end...)
		})
	}
}

// TestP10_2Bytes has runes that are cut, bytes that are held, and faults.
func TestP10_2Bytes(t *testing.T) {
	d := db(t, fewProps)
	rs := read(t, d, "A ~ B")
	x := made(t, d, rs)
	for _, l := range [][]step{
		// Held bytes that become a rune of two, three, four bytes.
		{{"\xc3", nil, 0, 1}, {"\xa1", []int{0}, 0, 0}, {"b", nil, 0, 0}, {"", nil, 0, 0}, {"", nil, 0, 0}},
		{{"a", []int{0}, 0, 0}, {"\xe4", nil, 0, 1}, {"\xb8", nil, 0, 2}, {"", nil, 0, 2}, {"\x80", nil, 0, 0}},
		{{"a\xe4", []int{0}, 0, 1}, {"\xb8\x80", nil, 0, 0}},
		{{"\xf0", nil, 0, 1}, {"\x9f", nil, 0, 2}, {"\x98", nil, 0, 3}, {"\x80b", []int{0}, 0, 0}},
		{{"\xf0\x9f\x98", nil, 0, 3}, {"\x80", []int{0}, 0, 0}, {"\xe4\xb8", nil, 0, 2}, {"\x80", nil, 0, 0}},
		{{"a\xf0\x9f", []int{0}, 0, 2}, {"\x98\x80\xe4", []int{1}, 0, 1}, {"\xb8\x80\xff", []int{8}, 0, 0}},
		// Held bytes that become faults by the next piece: all of them, or all but what is held then.
		{{"\xe2\x82", nil, 0, 2}, {"a", []int{0, 1, 2}, 0, 0}, {"b", nil, 0, 0}},
		{{"\xf0\x9f\x98", nil, 0, 3}, {"\xff", []int{0, 1, 2, 3}, 0, 0}},
		{{"\xf0\x9f\x98", nil, 0, 3}, {"\xe4", []int{0, 1, 2}, 0, 1}, {"\xb8\x80", []int{3}, 0, 0}},
		{{"\xe2", nil, 0, 1}, {"\xe2", []int{0}, 0, 1}, {"\xe2", []int{1}, 0, 1}},
		// Bytes that are faults whatever comes.
		{{"\xe0\x80", []int{0, 1}, 0, 0}, {"\xc0", []int{2}, 0, 0}, {"\xf5\xed\xa0", []int{3, 4, 5}, 0, 0}},
		{{"\xffa", []int{0, 1}, 0, 0}, {"\x80\xff", []int{2, 3}, 0, 0}, {"b\x80", []int{4, 5}, 0, 0}},
	} {
		end := 0
		for _, s := range l {
			end += len(s.piece)
		}
		want := []int{}
		for n := l[len(l)-1].held; n >= 0; n-- {
			want = append(want, end-n)
		}
		steps(t, x, d, rs, l, want...)
	}
}

// TestP10_2Held holds all calls against the plain reading, with rules and texts of all kinds, and cuts of all kinds.
func TestP10_2Held(t *testing.T) {
	r := rand.New(rand.NewSource(102))
	d := db(t, fewProps)
	for range 1500 {
		rs := someRules(r, 6)
		x := made(t, d, rs)
		for range 3 {
			s := someText(r, 9)
			held(t, x, d, rs, someCuts(r, s)...)
			held(t, x, d, rs, by(s, 1)...)
		}
	}
}

// TestP10_2Real has the rules of later chapters over texts of their runes.
func TestP10_2Real(t *testing.T) {
	r := rand.New(rand.NewSource(1020))
	for _, x := range []struct {
		props, rules string
		runes        []string
	}{
		{api.GraphemeProps, api.GraphemeRules, []string{"e", "\u0301", "\r", "\n", "\u200d", "\u0903", "\u0600", "\u1100", "\u1161", "\u11a8", "\uac00", "\U0001f400", "\U0001f1e6", "\x80"}},
		{api.WordProps, api.WordRules, []string{"e", "\u05d0", "'", "\"", ".", ",", "1", "_", " ", "\u0301", "\r", "\n", "\U0001f1e6", "\xff"}},
		{api.SentenceProps, api.SentenceRules, []string{"a", "A", "1", ".", "!", ")", " ", ",", "\u0301", "\r", "\n", "\u4e00", "\xff"}},
		{api.LineProps, api.LineRules, []string{"a", "1", ".", "!", "(", ")", " ", "\u00a0", "\u0301", "\r", "\n", "\u4e00", "$", "%", "-", "\u2014", "\U0001f1e6", "\xff"}},
	} {
		d := db(t, x.props)
		rs := read(t, d, x.rules)
		st := made(t, d, rs)
		for range 60 {
			var s strings.Builder
			for range r.Intn(12) {
				s.WriteString(x.runes[r.Intn(len(x.runes))])
			}
			held(t, st, d, rs, someCuts(r, s.String())...)
		}
	}
}

// TestP10_2Long has texts of which all places stay open: no one would wait, if each of them were gone through for every rune.
func TestP10_2Long(t *testing.T) {
	d := db(t, fewProps)
	const long = 300000
	s := strings.Repeat("x", long)
	for _, text := range []string{"/ Other* A\nrest ~", "/ (Other Other Other)* A\n/ (Other Other)* A\n/ Other (Other Other)* A\nrest ~", "/ .* A $\nrest ~", "^ .* / Other* A", "/ (Other Other Other* | Other?) A"} {
		rs := read(t, d, text)
		rs.Rest = false
		x := made(t, d, rs)
		told := x.Write([]byte(s))
		if !slices.Equal(told, []int{0}) || x.Open() != long-1 {
			t.Fatalf("%q: %d told, %d open", text, len(told), x.Open())
		}
		told = append(x.Write([]byte("a")), x.End()...)
		if len(told) != long+1 || told[0] != 1 || told[long] != long+1 {
			t.Errorf("%q: %d told behind the a", text, len(told))
		}
		x.Write([]byte(s))
		if got := x.Write([]byte("b")); len(got) != 0 {
			t.Errorf("%q: %d told behind the b", text, len(got))
		}
		if got := x.End(); !slices.Equal(got, []int{long + 1}) {
			t.Errorf("%q: %d told at the end", text, len(got))
		}
	}
}

// TestP10_2Merged has runs from many places that come to the same states one after the other, at odd times, and part from others.
func TestP10_2Merged(t *testing.T) {
	r := rand.New(rand.NewSource(1022))
	d := db(t, fewProps)
	for _, text := range []string{
		"/ (A | B)* A (A | B) (A | B) C\n/ (A A)* B B* C\n. . ~ B* A+ B C\nrest ~",
		"A / (A | B)* C $\nB ~ (A B)* C\nB / (A | B)* C C\nrest ~",
		"/ A? A? A? B? B? B? C\nA ~ (A | B B)* C\nrest /",
		"~ (A | B)* C\n/ (A | B)* C Other\nA / A* B+ C $\nrest /",
	} {
		rs := read(t, d, text)
		x := made(t, d, rs)
		for range 60 {
			var s strings.Builder
			for range 3 + r.Intn(24) {
				s.WriteByte("abab"[r.Intn(4)])
			}
			s.WriteString([]string{"", "\xff", "x", "\xffx", "\xff\xff"}[r.Intn(5)])
			s.WriteString(someText(r, 3))
			held(t, x, d, rs, by(s.String(), 1+r.Intn(3))...)
		}
	}
}

func TestP10_3End(t *testing.T) {
	d := db(t, fewProps)
	rs := read(t, d, "A ~ B B\nB ~ C")
	x := made(t, d, rs)
	for range 2 {
		if got := x.End(); len(got) != 0 {
			t.Errorf("End of nothing: %v", got)
		}
	}
	steps(t, x, d, rs, nil)
	steps(t, x, d, rs, []step{{"", nil, 0, 0}, {"", nil, 0, 0}})
	x.Write(nil)
	x.Write([]byte{})
	if got := x.End(); len(got) != 0 {
		t.Errorf("End of nothing written: %v", got)
	}
	// What is held becomes faults, of which places are told by the rules.
	steps(t, x, d, rs, []step{{"\xe2\x82", nil, 0, 2}}, 0, 1, 2)
	steps(t, x, d, rs, []step{{"\xf0\x9f\x98", nil, 0, 3}}, 0, 1, 2, 3)
	steps(t, x, d, rs, []step{{"b", []int{0}, 0, 0}, {"\xe2\x82", nil, 0, 2}}, 2, 3)
	// A place that is open at the end.
	steps(t, x, d, rs, []step{{"ab", []int{0}, 1, 0}}, 1, 2)
	steps(t, x, d, rs, []step{{"ab", []int{0}, 1, 0}, {"\xf0", nil, 1, 1}}, 1, 3)
	// Twice, and a new text behind it, of which nothing ahead of End is a part.
	x.Write([]byte("ab\xe2"))
	x.End()
	if got := x.End(); len(got) != 0 || x.Len() != 0 || x.Held() != 0 || x.Open() != 0 || x.Told() != 0 {
		t.Errorf("End twice: %v", got)
	}
	steps(t, x, d, rs, []step{{"b", []int{0}, 0, 0}, {"b", []int{1}, 0, 0}, {"\x82", nil, 0, 0}}, 3)
	start := read(t, d, "^ A ~\nA A / B .* $\nrest ~")
	y := made(t, d, start)
	for range 3 {
		steps(t, y, d, start, []step{{"a", []int{0}, 0, 0}, {"a", nil, 0, 0}, {"b", nil, 1, 0}}, 2, 3)
	}
}

// TestP10_4Lists writes over all that is handed in and answered.
func TestP10_4Lists(t *testing.T) {
	d := db(t, fewProps)
	rs := read(t, d, "A ~ B B")
	x := made(t, d, rs)
	room := []byte("aab\xe4\xff\xff\xff")
	first := x.Write(room[:4])
	if !slices.Equal(first, []int{0, 1}) || string(room) != "aab\xe4\xff\xff\xff" {
		t.Errorf("%v, %q", first, room)
	}
	copy(room, "\x80\x80\x80\x80")
	clear(first[:cap(first)])
	second := x.Write([]byte("\xb8\x80b"))
	if want := []int{3, 6}; !slices.Equal(second, want) {
		t.Errorf("%v; want %v", second, want)
	}
	third := x.Write([]byte("x"))
	clear(second[:cap(second)])
	if want := []int{7}; !slices.Equal(third, want) {
		t.Errorf("%v; want %v", third, want)
	}
	end := x.End()
	clear(third[:cap(third)])
	if !slices.Equal(end, []int{8}) {
		t.Errorf("End %v", end)
	}
	clear(end[:cap(end)])
	held(t, x, d, rs, "aab", "b")
}

func TestP10_4Nil(t *testing.T) {
	var x *stream.Stream
	for _, p := range [][]byte{nil, {}, []byte("a"), []byte("a\xff\u4e00"), []byte("\xe2")} {
		if got := x.Write(p); len(got) != 0 {
			t.Errorf("Write(%q): %v", p, got)
		}
		if x.Len() != 0 || x.Held() != 0 || x.Open() != 0 || x.Told() != 0 {
			t.Errorf("%d, %d, %d, %d", x.Len(), x.Held(), x.Open(), x.Told())
		}
		if got := x.End(); len(got) != 0 {
			t.Errorf("End: %v", got)
		}
	}
}
