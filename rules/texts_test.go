package rules_test

import (
	"fmt"
	"math/rand"
	"slices"
	"strings"
	"testing"

	"kerf/api"
	"kerf/pattern"
	"kerf/props"
	"kerf/rules"
)

func TestP8_4Parse(t *testing.T) {
	other, cr, lf, mark := set(0), set(1), set(2), set(3)
	one := func(r api.Rule) api.RuleSet { return api.RuleSet{Rules: []api.Rule{r}, Rest: true} }
	for _, x := range []struct {
		text string
		want api.RuleSet
	}{
		{"", api.RuleSet{Rest: true}},
		{"\n", api.RuleSet{Rest: true}},
		{" \t \n\n\t\n", api.RuleSet{Rest: true}},
		{"#", api.RuleSet{Rest: true}},
		{"# ~ ~ \xff\n \t# rest\n", api.RuleSet{Rest: true}},
		{"rest /", api.RuleSet{Rest: true}},
		{"rest ~", api.RuleSet{}},
		{"rest~", api.RuleSet{}},
		{" \trest\t ~ \t", api.RuleSet{}},
		{"rest ~#x", api.RuleSet{}},
		{"rest ~\n\n# ~\n \t\n", api.RuleSet{}},
		{"~", one(api.Rule{})},
		{"/", one(api.Rule{Break: true})},
		{"~\n", one(api.Rule{})},
		{"Cr ~ Lf", one(api.Rule{Left: cr, Right: lf})},
		{"Cr~Lf", one(api.Rule{Left: cr, Right: lf})},
		{"\t Cr\t~\tLf \t", one(api.Rule{Left: cr, Right: lf})},
		{"Cr / Lf # ~ and all this: \xc3 [", one(api.Rule{Break: true, Left: cr, Right: lf})},
		{"Cr ~ # Lf", one(api.Rule{Left: cr})},
		{"Cr /#", one(api.Rule{Break: true, Left: cr})},
		{"/ Cr", one(api.Rule{Break: true, Right: cr})},
		{"\n\n  # x\nCr ~ Lf\n\n", one(api.Rule{Left: cr, Right: lf})},
		{"^~", one(api.Rule{Start: true})},
		{"~$", one(api.Rule{End: true})},
		{"^ / $", one(api.Rule{Break: true, Start: true, End: true})},
		{"^Cr~Lf$", one(api.Rule{Start: true, End: true, Left: cr, Right: lf})},
		{" ^\t Cr  ~ Lf \t$ ", one(api.Rule{Start: true, End: true, Left: cr, Right: lf})},
		{"^ Cr ~ Lf", one(api.Rule{Start: true, Left: cr, Right: lf})},
		{"Cr ~ Lf $", one(api.Rule{End: true, Left: cr, Right: lf})},
		{"^ Cr | Lf ~ [^Mark Cr] Lf* $", one(api.Rule{Start: true, End: true, Left: or(cr, lf), Right: then(set(0, 2), many(lf))})},
		{"[^ Cr] ~ .", one(api.Rule{Left: set(0, 2, 3), Right: set(0, 1, 2, 3)})},
		{"Cr ~ Lf\n/ Mark\nOther ~\nrest ~\n", api.RuleSet{Rules: []api.Rule{{Left: cr, Right: lf}, {Break: true, Right: mark}, {Left: other}}}},
	} {
		got, e, line := rules.Parse(x.text, few)
		if e != api.OK || line != 0 || !same(got, x.want) {
			t.Errorf("%q: %v, %d, %d; want %v", x.text, got, e, line, x.want)
		}
	}
	// A class that has the name rest.
	for text, want := range map[string]api.RuleSet{
		"rest ~":          {},
		"^ rest ~":        one(api.Rule{Start: true, Left: set(1)}),
		"^rest/":          one(api.Rule{Break: true, Start: true, Left: set(1)}),
		"(rest) ~":        one(api.Rule{Left: set(1)}),
		"rest* ~":         one(api.Rule{Left: many(set(1))}),
		"A rest ~ rest":   one(api.Rule{Left: then(set(0), set(1)), Right: set(1)}),
		"~ rest":          one(api.Rule{Right: set(1)}),
		"rest rest ~":     one(api.Rule{Left: then(set(1), set(1))}),
		"~ rest $\nrest~": {Rules: []api.Rule{{End: true, Right: set(1)}}},
	} {
		if got := made(t, text, []string{"A", "rest"}); !same(got, want) {
			t.Errorf("%q: %v; want %v", text, got, want)
		}
	}
}

func TestP8_4Errors(t *testing.T) {
	for _, x := range []struct {
		text string
		e    api.Errno
		line int
	}{
		// ~ and / none, twice, both.
		{"Cr Lf", api.ErrRule, 1}, {"Cr ~ Lf ~", api.ErrRule, 1}, {"Cr / Lf /", api.ErrRule, 1}, {"Cr ~ / Lf", api.ErrRule, 1}, {"~~", api.ErrRule, 1}, {"/~", api.ErrRule, 1}, {"~/~", api.ErrRule, 1}, {"rest", api.ErrRule, 1}, {"rest ~ ~", api.ErrRule, 1}, {"rest ~ /", api.ErrRule, 1}, {"Cr # ~", api.ErrRule, 1}, {"x", api.ErrRule, 1}, {"\r", api.ErrRule, 1}, {"\xff", api.ErrRule, 1}, {"\n\nCr ~ Lf\n\x00\n", api.ErrRule, 4}, {"^", api.ErrRule, 1}, {"$", api.ErrRule, 1},
		// A line of which nothing else is right.
		{"[ ~ D /", api.ErrRule, 1},
		// rest twice, a rule behind it, something behind its sign.
		{"rest ~\nrest ~", api.ErrRule, 2}, {"rest ~\nrest /", api.ErrRule, 2}, {"rest /\nCr ~ Lf", api.ErrRule, 2}, {"rest /\n\n# x\n \t\nCr ~ Lf", api.ErrRule, 5}, {"rest /\n[ ~ D", api.ErrRule, 2}, {"rest ~ x", api.ErrRule, 1}, {"rest ~ Cr", api.ErrRule, 1}, {"rest / $", api.ErrRule, 1}, {"rest ~ \xff", api.ErrRule, 1}, {"rest ~ rest", api.ErrRule, 1}, {"rest ~\r", api.ErrRule, 1}, {"rest ~ ()", api.ErrRule, 1},
		// No rest, but a rule with a class that has no such name.
		{"^ rest ~", api.ErrClass, 1}, {"(rest) ~", api.ErrClass, 1}, {"Rest ~", api.ErrClass, 1}, {"res t ~", api.ErrClass, 1}, {"rest rest /", api.ErrClass, 1}, {"rest ^ ~", api.ErrClass, 1},
		// ^ and $ twice, and in the wrong place.
		{"^ ^ Cr ~", api.ErrSyntax, 1}, {"^^ ~", api.ErrSyntax, 1}, {"Cr ^ ~", api.ErrSyntax, 1}, {"Cr ~ ^ Lf", api.ErrSyntax, 1}, {"~ ^", api.ErrSyntax, 1}, {"~ Cr $ $", api.ErrSyntax, 1}, {"~ $$", api.ErrSyntax, 1}, {"~ $ Cr", api.ErrSyntax, 1}, {"$ ~", api.ErrSyntax, 1}, {"Cr $ ~", api.ErrSyntax, 1}, {"$ Cr ~", api.ErrSyntax, 1}, {"^ $ ~", api.ErrSyntax, 1}, {"~ ^ $", api.ErrSyntax, 1},
		// What pattern.Parse refuses.
		{"\n[ ~ Cr", api.ErrShort, 2}, {"Cr ~ D", api.ErrClass, 1}, {"D ~ Cr", api.ErrClass, 1}, {"Cr ~ Lf\r", api.ErrSyntax, 1}, {"Cr ~ Lf\r\n", api.ErrSyntax, 1}, {"\xff ~", api.ErrSyntax, 1}, {"~ \xc3\xa9", api.ErrSyntax, 1}, {"Cr\x00~", api.ErrSyntax, 1}, {"Cr\v~", api.ErrSyntax, 1}, {"~ \u00a0", api.ErrSyntax, 1}, {"* ~", api.ErrSyntax, 1}, {"~ (", api.ErrShort, 1}, {"~ )", api.ErrSyntax, 1},
		{strings.Repeat("a", 33) + " ~", api.ErrLong, 1},
		// The left ahead of the right, a line ahead of the next.
		{"D ~ [", api.ErrClass, 1}, {"[ ~ D", api.ErrShort, 1}, {"* ~ D", api.ErrSyntax, 1}, {"Cr ~ [\nD ~", api.ErrShort, 1}, {"Cr ~ Lf\nD ~ [\n~~", api.ErrClass, 2}, {"~\n~~\n[ ~", api.ErrRule, 2},
		// pattern.Parse's own limits.
		{"~ " + strings.Repeat("(", 33), api.ErrDeep, 1}, {strings.Repeat("(", 32) + " ~", api.ErrShort, 1}, {"Cr" + strings.Repeat("*", 512) + " ~", api.ErrMany, 1}, {strings.Repeat("(", 33) + " ~ D", api.ErrDeep, 1},
	} {
		got, e, line := rules.Parse(x.text, few)
		if e != x.e || line != x.line || !same(got, api.RuleSet{}) {
			t.Errorf("%.60q: %v, %d, %d; want %d, %d", x.text, got, e, line, x.e, x.line)
		}
	}
}

func TestP8_4Names(t *testing.T) {
	most := make([]string, 65)
	for i := range most {
		most[i] = fmt.Sprintf("n%d", i)
	}
	long := strings.Repeat("a", 16385)
	for i, names := range [][]string{most, {""}, {"1a"}, {"a b"}, {"_a"}, {"A", "B", "A"}, {strings.Repeat("a", 33)}, {"\xff"}, {"A", "~"}, {"a\n"}} {
		for _, text := range []string{"", "~", "~~", long} {
			if got, e, line := rules.Parse(text, names); e != api.ErrArg || line != 0 || !same(got, api.RuleSet{}) {
				t.Errorf("%d: Parse(%.20q): %d, %d", i, text, e, line)
			}
		}
		for _, rs := range []api.RuleSet{{}, {Rules: make([]api.Rule, 65)}, {Rules: []api.Rule{{Left: or()}}}} {
			if s, e := rules.Print(rs, names); e != api.ErrArg || s != "" {
				t.Errorf("%d: Print: %q, %d", i, s, e)
			}
		}
	}
	made(t, "n63 ~", most[:64])
	made(t, "", nil)
	if got := made(t, ". ~ [^]", nil); !same(got, api.RuleSet{Rules: []api.Rule{{Left: set(), Right: set()}}, Rest: true}) {
		t.Errorf("no names: %v", got)
	}
	made(t, strings.Repeat("a", 32)+"~", []string{strings.Repeat("a", 32)})
}

func TestP8_4Limits(t *testing.T) {
	// Bytes.
	text := "Cr ~ Lf\n#"
	text += strings.Repeat("x", 16384-len(text))
	made(t, text, few)
	made(t, strings.Repeat("\n", 16384), few)
	for _, s := range []string{text + "x", strings.Repeat("\n", 16385), "~~" + text} {
		if got, e, line := rules.Parse(s, few); e != api.ErrLong || line != 0 || !same(got, api.RuleSet{}) {
			t.Errorf("%d bytes: %d, %d", len(s), e, line)
		}
	}
	// Rules.
	full := strings.Repeat("Cr ~ Lf\n\n", 64)
	for _, tail := range []string{"", "rest ~", "\n# ~\n", "rest ~\n#"} {
		if got := made(t, full+tail, few); len(got.Rules) != 64 {
			t.Errorf("%d rules", len(got.Rules))
		}
	}
	for tail, e := range map[string]api.Errno{"~": api.ErrMany, "Cr ~ Lf": api.ErrMany, "[ ~ D": api.ErrMany, "~~": api.ErrRule, "x": api.ErrRule, "rest ~ x": api.ErrRule} {
		if got, ge, line := rules.Parse(full+tail, few); ge != e || line != 129 || !same(got, api.RuleSet{}) {
			t.Errorf("64 rules and %q: %d, %d; want %d", tail, ge, line, e)
		}
	}
	if _, e, line := rules.Parse(full+"rest ~\n~", few); e != api.ErrRule || line != 130 {
		t.Errorf("behind 64 rules and a rest: %d, %d", e, line)
	}
}

// longText is a pattern's text of so many bytes, and the names in it.
func longText(bytes int) (string, []string) {
	name, tail := strings.Repeat("n", 31), strings.Repeat("m", bytes%32)
	names := strings.Repeat(name+" ", bytes/32)
	if tail == "" {
		return strings.TrimSuffix(names, " ") + "*", []string{name}
	}
	return names + tail, []string{name, tail}
}

// TestP8_4Blanks: blanks around a pattern's text are none of its bytes; a text of as many bytes as it may have is read as it was printed.
func TestP8_4Blanks(t *testing.T) {
	for _, bytes := range []int{4095, 4096, 4097} {
		text, names := longText(bytes)
		if len(text) != bytes {
			t.Fatalf("%d bytes", len(text))
		}
		want, we, _ := pattern.Parse(text, names)
		if (we == api.OK) != (bytes <= 4096) {
			t.Fatalf("%d bytes: %d", bytes, we)
		}
		for _, line := range []string{text + "~" + text, text + " ~ " + text, "^" + text + "~" + text + "$", "^ " + text + " ~ " + text + " $", " \t^ \t" + text + "\t \t~ \t " + text + " \t$ \t"} {
			got, e, n := rules.Parse(line, names)
			if e != we || n != min(int(e), 1) {
				t.Errorf("%d bytes: %d, %d; want %d", bytes, e, n, we)
			}
			if e == api.OK && (!samePattern(got.Rules[0].Left, want) || !samePattern(got.Rules[0].Right, want)) {
				t.Errorf("%d bytes: read as another", bytes)
			}
		}
		if we != api.OK {
			continue
		}
		rs := api.RuleSet{Rules: []api.Rule{{Left: want, Right: want}, {Start: true, End: true, Left: want}}}
		s, e := rules.Print(rs, names)
		if e != api.OK || !rules.Equal(made(t, s, names), rs) {
			t.Errorf("%d bytes there and back: %d", bytes, e)
		}
	}
}

// someText is made of what rules are made of, in any order.
func someText(r *rand.Rand) string {
	bits := []string{"Cr", "Lf", "Mark", "Other", "rest", "D", "~", "~", "~", "/", "/", "^", "$", "#", "\n", "\n", "\n", " ", " ", "\t", "(", ")", "|", "*", "[", "]", ".", "\xff", "rest ~", "rest /\n", "Cr ~ Lf\n", "^ Cr", "Mark $", "\r", "1"}
	var s strings.Builder
	for range r.Intn(14) {
		s.WriteString(bits[r.Intn(len(bits))])
	}
	return s.String()
}

func TestP8_4AgainstPlain(t *testing.T) {
	r := rand.New(rand.NewSource(84))
	taken := 0
	for range 60000 {
		text, names := someText(r), few
		if r.Intn(3) == 0 {
			names = []string{"Cr", "rest", "Lf", "D"}
		}
		got, e, line := rules.Parse(text, names)
		want, we, wline := plainParse(text, names)
		if e != we || line != wline || !same(got, want) {
			t.Fatalf("%q: %v, %d, %d; want %v, %d, %d", text, got, e, line, want, we, wline)
		}
		if e == api.OK && len(got.Rules) > 0 {
			taken++
		}
	}
	if taken < 1000 {
		t.Errorf("only %d were taken", taken)
	}
}

func TestP8_4Fresh(t *testing.T) {
	const text = "Cr Lf ~ (Lf | Mark)*\n/ .\nrest ~"
	a, b := made(t, text, few), made(t, text, few)
	names := slices.Clone(few)
	c := made(t, text, names)
	clear(names)
	spoil(a)
	want, _, _ := plainParse(text, few)
	if !same(b, want) || !same(c, want) {
		t.Errorf("two answers share, or the names are kept")
	}
}

func TestP8_5Print(t *testing.T) {
	for _, x := range [][2]string{
		{"", "rest /\n"},
		{"rest ~", "rest ~\n"},
		{"~", "() ~ ()\nrest /\n"},
		{"^ / $", "^ () / () $\nrest /\n"},
		{"  ^ Cr  ~Lf$  # remark\nrest ~", "^ Cr ~ Lf $\nrest ~\n"},
		{"^Cr/Lf", "^ Cr / Lf\nrest /\n"},
		{"Cr/Lf$", "Cr / Lf $\nrest /\n"},
		{"Cr|Lf~[Cr Lf]*", "Cr | Lf ~ [Cr Lf]*\nrest /\n"},
		{"[]~.\n\n(Cr Lf)*/[^Mark]\nrest/", "[] ~ .\n(Cr Lf)* / [Other Cr Lf]\nrest /\n"},
	} {
		if got, e := rules.Print(made(t, x[0], few), few); e != api.OK || got != x[1] {
			t.Errorf("%q: %q, %d; want %q", x[0], got, e, x[1])
		}
	}
	// A Left that is rest, with and without Start.
	named := []string{"rest", "A"}
	for _, x := range []struct {
		r    api.Rule
		want string
	}{
		{api.Rule{Left: set(0)}, "(rest) ~ ()\n"},
		{api.Rule{Left: set(0), Right: set(0)}, "(rest) ~ rest\n"},
		{api.Rule{Left: set(0), End: true}, "(rest) ~ () $\n"},
		{api.Rule{Left: set(0), Start: true}, "^ rest ~ ()\n"},
		{api.Rule{Left: set(0), Start: true, Break: true, End: true}, "^ rest / () $\n"},
		{api.Rule{Left: many(set(0))}, "rest* ~ ()\n"},
		{api.Rule{Left: then(set(0), set(1))}, "rest A ~ ()\n"},
		{api.Rule{Left: or(set(0), set(0))}, "rest | rest ~ ()\n"},
		{api.Rule{Right: set(0)}, "() ~ rest\n"},
		{api.Rule{Left: set(1)}, "A ~ ()\n"},
	} {
		rs := api.RuleSet{Rules: []api.Rule{x.r}}
		got, e := rules.Print(rs, named)
		if e != api.OK || got != x.want+"rest ~\n" {
			t.Errorf("%q, %d; want %q", got, e, x.want)
		}
		if back := made(t, got, named); !same(back, rs) {
			t.Errorf("%q: read as %v", got, back)
		}
	}
}

func TestP8_5PrintErrors(t *testing.T) {
	deep := set(0)
	for range 40 {
		deep = then(set(0), deep)
	}
	manyParts := row(600)
	long, names := longText(4096)
	p, _, _ := pattern.Parse(long, names)
	longer := then(p, p)
	names = append(names, "rest", "B")
	four := []api.Rule{{Left: p}, {Left: p}, {Left: p}, {Left: p}}
	with := func(l ...api.Rule) api.RuleSet { return api.RuleSet{Rules: l} }
	for i, x := range []struct {
		rs    api.RuleSet
		names []string
		e     api.Errno
	}{
		{with(make([]api.Rule, 65)...), names, api.ErrMany},
		{with(append([]api.Rule{{Left: or()}}, make([]api.Rule, 64)...)...), names, api.ErrMany},
		{with(api.Rule{Left: set(9)}), names, api.ErrClass},
		{with(api.Rule{Left: set(0)}), nil, api.ErrClass},
		{with(api.Rule{Right: or()}, api.Rule{Left: set(9)}), names, api.ErrForm},
		{with(api.Rule{Right: row(2049)}), names, api.ErrDeep},
		{with(api.Rule{Left: endless()}), names, api.ErrDeep},
		// Check's errors stand ahead of pattern.Print's, whatever the rule.
		{with(api.Rule{Left: deep}, api.Rule{Left: longer}, api.Rule{Right: set(9)}), names, api.ErrClass},
		{with(append(slices.Clone(four), api.Rule{Right: or()})...), names, api.ErrForm},
		{with(api.Rule{Left: deep}), names, api.ErrDeep},
		{with(api.Rule{Right: manyParts}), names, api.ErrMany},
		{with(api.Rule{Left: longer}), names, api.ErrLong},
		{with(api.Rule{Left: longer, Right: deep}), names, api.ErrLong},
		{with(api.Rule{Left: deep, Right: longer}), names, api.ErrDeep},
		{with(api.Rule{}, api.Rule{Right: manyParts}, api.Rule{Left: deep}), names, api.ErrMany},
		// pattern.Print's errors stand ahead of that of the whole.
		{with(append(slices.Clone(four), api.Rule{Right: deep})...), names, api.ErrDeep},
		{with(append(slices.Clone(four), api.Rule{Left: manyParts})...), names, api.ErrMany},
		{with(four...), names, api.ErrLong},
	} {
		if got, e := rules.Print(x.rs, x.names); e != x.e || got != "" {
			t.Errorf("%d: %.40q, %d; want %d", i, got, e, x.e)
		}
		if _, e := plainPrint(x.rs, x.names); e != x.e {
			t.Errorf("%d: plainly %d; want %d", i, e, x.e)
		}
	}
}

// TestP8_5PrintLong has texts of as many bytes as they may have, and of one more.
func TestP8_5PrintLong(t *testing.T) {
	for _, bytes := range []int{16380, 16383, 16384, 16385, 16390} {
		full, _ := longText(4096)
		last, names := longText(bytes - 3*len(full+" ~ ()\n") - len(" ~ ()\nrest ~\n"))
		var rs api.RuleSet
		for _, s := range []string{full, full, full, last} {
			p, _, _ := pattern.Parse(s, names)
			rs.Rules = append(rs.Rules, api.Rule{Left: p})
		}
		got, e := rules.Print(rs, names)
		if bytes > 16384 {
			if got != "" || e != api.ErrLong {
				t.Errorf("%d bytes: %d bytes, %d", bytes, len(got), e)
			}
			continue
		}
		if e != api.OK || len(got) != bytes || !rules.Equal(made(t, got, names), rs) {
			t.Errorf("%d bytes: %d bytes, %d", bytes, len(got), e)
		}
	}
}

func TestP8_9ThereAndBack(t *testing.T) {
	r := rand.New(rand.NewSource(98))
	names := []string{"rest", "A", "B"}
	for range 5000 {
		rs := someRules(r, 3, 6)
		text, e := rules.Print(rs, names)
		if want, we := plainPrint(rs, names); text != want || e != we {
			t.Fatalf("%q, %d; want %q, %d", text, e, want, we)
		}
		if e != api.OK {
			continue
		}
		back := made(t, text, names)
		if !rules.Equal(back, rs) || !same(back, rs) {
			t.Fatalf("%q: %v of %v", text, back, rs)
		}
	}
	for range 500 {
		rs := wrongRules(r, 4, 3)
		text, e := rules.Print(rs, names)
		if want, we := plainPrint(rs, names); text != want || e != we {
			t.Fatalf("%q, %d; want %q, %d", text, e, want, we)
		}
	}
}

// TestGiven: the rules that api gives are read, told, and read again as the same.
func TestGiven(t *testing.T) {
	for i, x := range [][2]string{{api.GraphemeProps, api.GraphemeRules}, {api.WordProps, api.WordRules}, {api.SentenceProps, api.SentenceRules}, {api.LineProps, api.LineRules}} {
		d, e, line := props.New(x[0])
		if e != api.OK {
			t.Fatalf("%d: %d, %d", i, e, line)
		}
		rs := made(t, x[1], d.Names())
		text, e := rules.Print(rs, d.Names())
		if e != api.OK || !rules.Equal(made(t, text, d.Names()), rs) {
			t.Errorf("%d: %d", i, e)
		}
		decided(t, rs, d.Of("A \"b.c\u0301\" 3,5\r\n(\U0001f1e6\U0001f1e7\U0001f1e8) d'e_f. Gh"))
	}
}

func TestExamples(t *testing.T) {
	rs := made(t, "^ Mark ~ .\nrest ~", few)
	if rs.Rest {
		t.Errorf("Rest")
	}
	if cut, n := rules.Decide(rs, []int{3, 0, 0}, 1); cut || n != 0 {
		t.Errorf("%v, %d", cut, n)
	}
	if cut, n := rules.Decide(rs, []int{3, 0, 0}, 2); cut || n != -1 {
		t.Errorf("%v, %d", cut, n)
	}
	one := made(t, "~", few).Rules[0]
	for at := range 3 {
		if !rules.Applies(one, []int{0, 3}, at) {
			t.Errorf("two empty patterns at %d", at)
		}
	}
}
