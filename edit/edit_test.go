package edit_test

import (
	"math"
	"math/rand"
	"slices"
	"strings"
	"testing"
	"time"

	"kerf/api"
	"kerf/edit"
)

// one is the chapter's first example.
var one = changeOf(4, api.Edit{From: 1, To: 2, Text: "X"}, api.Edit{From: 3, To: 3, Text: "YZ"})

// none are changes that are none, each with the number of its first edit that is not as said.
var none = []struct {
	c  api.Change
	at int
}{
	{changeOf(-1), 0},
	{changeOf(math.MinInt), 0},
	{changeOf(-1, api.Edit{From: 0, To: 0}, api.Edit{From: 3, To: 1}), 0},
	{changeOf(-1, api.Edit{From: -1, To: -1}), 0},
	{changeOf(2, api.Edit{From: -1, To: 1}), 0},
	{changeOf(2, api.Edit{From: math.MinInt, To: math.MaxInt}), 0},
	{changeOf(2, api.Edit{From: 2, To: 1}), 0},
	{changeOf(2, api.Edit{From: 2, To: 3}), 0},
	{changeOf(2, api.Edit{From: 3, To: 3}), 0},
	{changeOf(0, api.Edit{From: 0, To: 1}), 0},
	{changeOf(2, api.Edit{From: math.MaxInt, To: math.MaxInt}), 0},
	{changeOf(2, api.Edit{From: math.MaxInt, To: math.MinInt}), 0},
	{changeOf(4, api.Edit{From: 1, To: 2}, api.Edit{From: 1, To: 1}), 1},
	{changeOf(4, api.Edit{From: 1, To: 2}, api.Edit{From: 2, To: 3}, api.Edit{From: 2, To: 3}), 2},
	{changeOf(4, api.Edit{From: 1, To: 2}, api.Edit{From: 0, To: 1}, api.Edit{From: 9, To: 9}), 1},
	{changeOf(4, api.Edit{From: 3, To: 4}, api.Edit{From: 4, To: 4}, api.Edit{From: 4, To: 5}), 2},
	{changeOf(4, api.Edit{From: 3, To: 4}, api.Edit{From: -1, To: 5}), 1},
}

func TestP23_1(t *testing.T) {
	for _, x := range none {
		if e, i := edit.Check(x.c); e != api.ErrChange || i != x.at {
			t.Errorf("Check(%v): %d, %d", x.c, e, i)
		}
	}
	for _, c := range []api.Change{
		{}, one, changeOf(math.MaxInt),
		changeOf(0, api.Edit{}, api.Edit{}, api.Edit{Text: "x"}),
		changeOf(2, api.Edit{From: 0, To: 1}, api.Edit{From: 1, To: 1}, api.Edit{From: 1, To: 2}, api.Edit{From: 2, To: 2}),
		changeOf(math.MaxInt, api.Edit{From: 0, To: math.MaxInt, Text: "x"}, api.Edit{From: math.MaxInt, To: math.MaxInt}),
	} {
		if e, i := edit.Check(c); e != api.OK || i != 0 {
			t.Errorf("Check(%v): %d, %d", c, e, i)
		}
	}
}

// TestP23_1All is all that one or two edits may be, within a short text and beside it.
func TestP23_1All(t *testing.T) {
	for n := -1; n <= 2; n++ {
		var all []api.Edit
		for from := -1; from <= n+2; from++ {
			for to := -1; to <= n+2; to++ {
				all = append(all, api.Edit{From: from, To: to})
			}
		}
		for _, a := range all {
			for _, b := range all {
				for _, c := range []api.Change{changeOf(n, a), changeOf(n, a, b)} {
					e, i := edit.Check(c)
					if f, j := plainCheck(c); e != f || i != j {
						t.Fatalf("Check(%v): %d, %d", c, e, i)
					}
				}
			}
		}
	}
}

// refused holds what all calls answer to a change that is none, beside good ones of texts of other lengths, too.
func refused(t *testing.T, c api.Change) {
	t.Helper()
	for _, s := range []string{"", "ab", "abcd"} {
		if made, e := edit.Apply(s, c); made != "" || e != api.ErrChange {
			t.Fatalf("Apply(%q, %v): %q, %d", s, c, made, e)
		}
		if v, e := edit.Invert(s, c); !zero(v) || e != api.ErrChange {
			t.Fatalf("Invert(%q, %v): %v, %d", s, c, v, e)
		}
	}
	if v, e := edit.Norm(c); !zero(v) || e != api.ErrChange {
		t.Fatalf("Norm(%v): %v, %d", c, v, e)
	}
	for _, good := range []api.Change{{}, one, changeOf(7), c} {
		for _, pair := range [][2]api.Change{{c, good}, {good, c}} {
			if v, e := edit.Compose(pair[0], pair[1]); !zero(v) || e != api.ErrChange {
				t.Fatalf("Compose(%v): %v, %d", pair, v, e)
			}
			for _, first := range []bool{true, false} {
				if v, e := edit.Transform(pair[0], pair[1], first); !zero(v) || e != api.ErrChange {
					t.Fatalf("Transform(%v): %v, %d", pair, v, e)
				}
			}
		}
	}
	for _, at := range []int{math.MinInt, -1, 0, 1, 2, 3, 4, 5, math.MaxInt} {
		if edit.Move(c, at, true) != at || edit.Move(c, at, false) != at {
			t.Fatalf("Move(%v, %d)", c, at)
		}
	}
	if n := edit.Long(c); n != 0 {
		t.Fatalf("Long(%v): %d", c, n)
	}
	x := edit.NewTree("abcd")
	if n, e := x.Do(c); n != 0 || e != api.ErrChange || x.Len() != 1 || x.Node() != 0 || x.Text() != "abcd" || len(x.Kids()) != 0 {
		t.Fatalf("Do(%v): %d, %d", c, n, e)
	}
}

func TestP23_1Refused(t *testing.T) {
	for _, x := range none {
		refused(t, x.c)
	}
	r := rand.New(rand.NewSource(2311))
	for range 3000 {
		refused(t, spoilt(r, someChange(r, r.Intn(8))))
	}
}

// normed holds Norm of a change against the plain reading.
func normed(t *testing.T, c api.Change) {
	t.Helper()
	if got, e := edit.Norm(c); e != api.OK || !alike(got, plainNorm(c)) {
		t.Fatalf("Norm(%v): %v, %d", c, got, e)
	}
}

func TestP23_2(t *testing.T) {
	for _, x := range []struct{ c, want api.Change }{
		{changeOf(4, api.Edit{From: 1, To: 2, Text: "a"}, api.Edit{From: 2, To: 3, Text: "b"}, api.Edit{From: 4, To: 4}), changeOf(4, api.Edit{From: 1, To: 3, Text: "ab"})},
		{one, one},
		{api.Change{}, api.Change{}},
		{changeOf(3, api.Edit{}, api.Edit{From: 1, To: 1}, api.Edit{From: 3, To: 3}), changeOf(3)},
		{changeOf(0, api.Edit{Text: "a"}, api.Edit{}, api.Edit{Text: "b"}), changeOf(0, api.Edit{Text: "ab"})},
		{changeOf(2, api.Edit{From: 0, To: 1}, api.Edit{From: 1, To: 1, Text: "x"}, api.Edit{From: 1, To: 2}), changeOf(2, api.Edit{From: 0, To: 2, Text: "x"})},
		{changeOf(2, api.Edit{From: 0, To: 0, Text: "x"}, api.Edit{From: 0, To: 1}, api.Edit{From: 2, To: 2, Text: "y"}), changeOf(2, api.Edit{From: 0, To: 1, Text: "x"}, api.Edit{From: 2, To: 2, Text: "y"})},
		{changeOf(3, api.Edit{From: 0, To: 1}, api.Edit{From: 2, To: 3}), changeOf(3, api.Edit{From: 0, To: 1}, api.Edit{From: 2, To: 3})},
		{changeOf(math.MaxInt, api.Edit{From: 5, To: 5}, api.Edit{From: 7, To: math.MaxInt}), changeOf(math.MaxInt, api.Edit{From: 7, To: math.MaxInt})},
	} {
		if got, e := edit.Norm(x.c); e != api.OK || !alike(got, x.want) {
			t.Errorf("Norm(%v): %v, %d", x.c, got, e)
		}
	}
}

func TestP23_2All(t *testing.T) {
	for n := range 4 {
		for c := range changes(n, 3) {
			normed(t, c)
		}
	}
	r := rand.New(rand.NewSource(232))
	for range 20000 {
		normed(t, someChange(r, r.Intn(12)))
	}
}

// TestP23_2Alike is that alike changes, and no others, have one normal form, and that none of them has fewer edits.
func TestP23_2Alike(t *testing.T) {
	forms := map[string]api.Change{}
	for c := range changes(2, 3) {
		key := ""
		for _, x := range made(c, whole(2)) {
			key += string([]byte{byte(x.kept + 1), x.laid})
		}
		got, _ := edit.Norm(c)
		if want, ok := forms[key]; ok && !alike(got, want) {
			t.Fatalf("Norm(%v): %v and %v", c, got, want)
		}
		if forms[key] = got; len(got.Edits) > len(c.Edits) {
			t.Fatalf("Norm(%v): %v", c, got)
		}
	}
	for a, x := range forms {
		for b, y := range forms {
			if a != b && alike(x, y) {
				t.Fatalf("%q, %q: %v", a, b, x)
			}
		}
	}
}

func TestP23_3(t *testing.T) {
	for _, x := range []struct {
		s    string
		c    api.Change
		want string
	}{
		{"abcd", one, "aXcYZd"},
		{"", api.Change{}, ""},
		{"", changeOf(0, api.Edit{Text: "x"}, api.Edit{Text: "y"}), "xy"},
		{"abc", changeOf(3), "abc"},
		{"abc", changeOf(3, api.Edit{From: 0, To: 3}), ""},
		{"abc", changeOf(3, api.Edit{From: 0, To: 0, Text: "x"}, api.Edit{From: 3, To: 3, Text: "y"}), "xabcy"},
		{"abc", changeOf(3, api.Edit{From: 0, To: 1, Text: "x"}, api.Edit{From: 1, To: 2, Text: "y"}, api.Edit{From: 2, To: 2, Text: "z"}), "xyzc"},
		{"\u20ac", changeOf(3, api.Edit{From: 1, To: 2}), "\xe2\xac"},
		{"\xe2\xac", changeOf(2, api.Edit{From: 1, To: 1, Text: "\x82"}), "\u20ac"},
		{"\xff\xfe", changeOf(2, api.Edit{From: 1, To: 1, Text: "\xe2\x82"}), "\xff\xe2\x82\xfe"},
	} {
		if got, e := edit.Apply(x.s, x.c); e != api.OK || got != x.want {
			t.Errorf("Apply(%q, %v): %q, %d", x.s, x.c, got, e)
		}
	}
	for _, s := range []string{"", "abc", "abcde", "a\u00e9\u00e9"} {
		if got, e := edit.Apply(s, one); e != api.ErrText || got != "" {
			t.Errorf("Apply(%q): %q, %d", s, got, e)
		}
	}
	if got, e := edit.Apply("ab", changeOf(math.MaxInt)); e != api.ErrText || got != "" {
		t.Errorf("%q, %d", got, e)
	}
}

func TestP23_3All(t *testing.T) {
	r := rand.New(rand.NewSource(233))
	for range 30000 {
		s := someText(r, 8)
		c := someChange(r, len(s))
		if got, e := edit.Apply(s, c); e != api.OK || got != plainApply(s, c) {
			t.Fatalf("Apply(%q, %v): %q, %d", s, c, got, e)
		}
		if got, e := edit.Apply(s+"x", c); e != api.ErrText || got != "" {
			t.Fatalf("Apply(%q, %v): %q, %d", s+"x", c, got, e)
		}
		if got, e := edit.Invert(s+"x", c); e != api.ErrText || !zero(got) {
			t.Fatalf("Invert(%q, %v): %v, %d", s+"x", c, got, e)
		}
	}
}

func TestP23_4(t *testing.T) {
	for _, x := range []struct {
		s       string
		c, want api.Change
	}{
		{"abcd", one, changeOf(6, api.Edit{From: 1, To: 2, Text: "b"}, api.Edit{From: 3, To: 5})},
		{"", api.Change{}, api.Change{}},
		{"abc", changeOf(3, api.Edit{From: 2, To: 2}), changeOf(3)},
		{"abc", changeOf(3, api.Edit{From: 0, To: 3}), changeOf(0, api.Edit{Text: "abc"})},
		{"", changeOf(0, api.Edit{Text: "x"}, api.Edit{Text: "y"}), changeOf(2, api.Edit{From: 0, To: 2})},
		{"abc", changeOf(3, api.Edit{From: 0, To: 1, Text: "x"}, api.Edit{From: 1, To: 2, Text: "y"}), changeOf(3, api.Edit{From: 0, To: 2, Text: "ab"})},
		{"abc", changeOf(3, api.Edit{From: 1, To: 2, Text: "b"}), changeOf(3, api.Edit{From: 1, To: 2, Text: "b"})},
		{"a\u20acb", changeOf(5, api.Edit{From: 2, To: 3}, api.Edit{From: 4, To: 5, Text: "\xff"}), changeOf(4, api.Edit{From: 2, To: 2, Text: "\x82"}, api.Edit{From: 3, To: 4, Text: "b"})},
	} {
		if got, e := edit.Invert(x.s, x.c); e != api.OK || !alike(got, x.want) {
			t.Errorf("Invert(%q, %v): %v, %d", x.s, x.c, got, e)
		}
	}
	for _, s := range []string{"", "abc", "abcde"} {
		if got, e := edit.Invert(s, one); e != api.ErrText || !zero(got) {
			t.Errorf("Invert(%q): %v, %d", s, got, e)
		}
	}
}

func TestP23_4All(t *testing.T) {
	for n := range 4 {
		for c := range changes(n, 3) {
			if got, e := edit.Invert("abc"[:n], c); e != api.OK || !alike(got, plainInvert("abc"[:n], c)) {
				t.Fatalf("Invert(%v): %v, %d", c, got, e)
			}
		}
	}
	r := rand.New(rand.NewSource(234))
	for range 20000 {
		s := someText(r, 8)
		c := someChange(r, len(s))
		if got, e := edit.Invert(s, c); e != api.OK || !alike(got, plainInvert(s, c)) {
			t.Fatalf("Invert(%q, %v): %v, %d", s, c, got, e)
		}
	}
}

func TestP23_5(t *testing.T) {
	for _, x := range []struct{ a, b, want api.Change }{
		{changeOf(2, api.Edit{From: 1, To: 1, Text: "xy"}), changeOf(4, api.Edit{From: 2, To: 3}), changeOf(2, api.Edit{From: 1, To: 1, Text: "x"})},
		{api.Change{}, api.Change{}, api.Change{}},
		{one, changeOf(6), one},
		{changeOf(4), one, one},
		{one, changeOf(6, api.Edit{From: 0, To: 6}), changeOf(4, api.Edit{From: 0, To: 4})},
		{changeOf(2, api.Edit{From: 1, To: 1, Text: "xy"}), changeOf(4, api.Edit{From: 1, To: 3}), changeOf(2)},
		{changeOf(2, api.Edit{From: 0, To: 2}), changeOf(0, api.Edit{Text: "ab"}), changeOf(2, api.Edit{From: 0, To: 2, Text: "ab"})},
		{changeOf(3, api.Edit{From: 1, To: 2}), changeOf(2, api.Edit{From: 1, To: 1, Text: "x"}), changeOf(3, api.Edit{From: 1, To: 2, Text: "x"})},
		{changeOf(3, api.Edit{From: 0, To: 1}, api.Edit{From: 2, To: 3, Text: "z"}), changeOf(2, api.Edit{From: 0, To: 1, Text: "x"}), changeOf(3, api.Edit{From: 0, To: 3, Text: "xz"})},
		{changeOf(1, api.Edit{From: 1, To: 1, Text: "abc"}), changeOf(4, api.Edit{From: 2, To: 2, Text: "X"}, api.Edit{From: 3, To: 3, Text: "Y"}), changeOf(1, api.Edit{From: 1, To: 1, Text: "aXbYc"})},
		{changeOf(math.MaxInt, api.Edit{From: 3, To: math.MaxInt}), changeOf(3, api.Edit{From: 1, To: 2}), changeOf(math.MaxInt, api.Edit{From: 1, To: 2}, api.Edit{From: 3, To: math.MaxInt})},
	} {
		if got, e := edit.Compose(x.a, x.b); e != api.OK || !alike(got, x.want) {
			t.Errorf("Compose(%v, %v): %v, %d", x.a, x.b, got, e)
		}
	}
	for _, n := range []int{0, 4, 5, 7, math.MaxInt} {
		if got, e := edit.Compose(one, changeOf(n)); e != api.ErrText || !zero(got) {
			t.Errorf("Compose(%v, %d): %v, %d", one, n, got, e)
		}
	}
}

func TestP23_5All(t *testing.T) {
	for n := range 3 {
		for a := range changes(n, 2) {
			for b := range changes(edit.Long(a), 1) {
				if got, e := edit.Compose(a, b); e != api.OK || !alike(got, plainCompose(a, b)) {
					t.Fatalf("Compose(%v, %v): %v, %d", a, b, got, e)
				}
			}
		}
	}
	r := rand.New(rand.NewSource(235))
	for range 30000 {
		a := someChange(r, r.Intn(10))
		b := someChange(r, edit.Long(a))
		if got, e := edit.Compose(a, b); e != api.OK || !alike(got, plainCompose(a, b)) {
			t.Fatalf("Compose(%v, %v): %v, %d", a, b, got, e)
		}
		b.Len++
		if got, e := edit.Compose(a, b); e != api.ErrText || !zero(got) {
			t.Fatalf("Compose(%v, %v): %v, %d", a, b, got, e)
		}
	}
}

func TestP23_6(t *testing.T) {
	for _, x := range []struct {
		a, b  api.Change
		first bool
		want  api.Change
	}{
		{changeOf(2, api.Edit{From: 1, To: 1, Text: "x"}), changeOf(2, api.Edit{From: 0, To: 2}), true, changeOf(0, api.Edit{Text: "x"})},
		{changeOf(1, api.Edit{Text: "a"}), changeOf(1, api.Edit{Text: "b"}), true, changeOf(2, api.Edit{Text: "a"})},
		{changeOf(1, api.Edit{Text: "a"}), changeOf(1, api.Edit{Text: "b"}), false, changeOf(2, api.Edit{From: 1, To: 1, Text: "a"})},
		{api.Change{}, api.Change{}, true, api.Change{}},
		{one, changeOf(4), true, one},
		{changeOf(4), one, true, changeOf(6)},
		{changeOf(2, api.Edit{From: 0, To: 2}), changeOf(2, api.Edit{From: 0, To: 2}), true, changeOf(0)},
		{changeOf(2, api.Edit{From: 0, To: 2}), changeOf(2, api.Edit{From: 1, To: 1, Text: "x"}), true, changeOf(3, api.Edit{From: 0, To: 1}, api.Edit{From: 2, To: 3})},
		{changeOf(1, api.Edit{From: 0, To: 1, Text: "a"}), changeOf(1, api.Edit{From: 0, To: 1, Text: "b"}), true, changeOf(1, api.Edit{Text: "a"})},
		{changeOf(1, api.Edit{From: 0, To: 1, Text: "a"}), changeOf(1, api.Edit{From: 0, To: 1, Text: "b"}), false, changeOf(1, api.Edit{From: 1, To: 1, Text: "a"})},
		{changeOf(3, api.Edit{From: 1, To: 3, Text: "a"}), changeOf(3, api.Edit{From: 0, To: 2, Text: "b"}), true, changeOf(2, api.Edit{From: 1, To: 2, Text: "a"})},
		{changeOf(3, api.Edit{From: 2, To: 2, Text: "a"}), changeOf(3, api.Edit{From: 1, To: 2, Text: "b"}), true, changeOf(3, api.Edit{From: 2, To: 2, Text: "a"})},
		{changeOf(3, api.Edit{From: 0, To: 1}, api.Edit{From: 1, To: 1, Text: "a"}), changeOf(3, api.Edit{From: 0, To: 0, Text: "b"}), true, changeOf(4, api.Edit{From: 0, To: 0, Text: "a"}, api.Edit{From: 1, To: 2})},
		{changeOf(math.MaxInt, api.Edit{From: 9, To: 9, Text: "x"}), changeOf(math.MaxInt, api.Edit{From: 5, To: math.MaxInt}), true, changeOf(5, api.Edit{From: 5, To: 5, Text: "x"})},
	} {
		if got, e := edit.Transform(x.a, x.b, x.first); e != api.OK || !alike(got, x.want) {
			t.Errorf("Transform(%v, %v, %v): %v, %d", x.a, x.b, x.first, got, e)
		}
	}
	for _, n := range []int{0, 3, 5, 6, math.MaxInt} {
		if got, e := edit.Transform(one, changeOf(n), true); e != api.ErrText || !zero(got) {
			t.Errorf("Transform(%v, %d): %v, %d", one, n, got, e)
		}
	}
}

func TestP23_6All(t *testing.T) {
	for n := range 3 {
		for a := range changes(n, 2) {
			for b := range changes(n, 1+n%2) {
				for _, first := range []bool{true, false} {
					if got, e := edit.Transform(a, b, first); e != api.OK || !alike(got, plainTransform(a, b, first)) {
						t.Fatalf("Transform(%v, %v, %v): %v, %d", a, b, first, got, e)
					}
				}
			}
		}
	}
	r := rand.New(rand.NewSource(236))
	for i := range 30000 {
		n := r.Intn(10)
		a, b := someChange(r, n), someChange(r, n)
		if got, e := edit.Transform(a, b, i%2 == 0); e != api.OK || !alike(got, plainTransform(a, b, i%2 == 0)) {
			t.Fatalf("Transform(%v, %v, %v): %v, %d", a, b, i%2 == 0, got, e)
		}
		b.Len++
		if got, e := edit.Transform(a, b, i%2 == 0); e != api.ErrText || !zero(got) {
			t.Fatalf("Transform(%v, %v): %v, %d", a, b, got, e)
		}
	}
}

func TestP23_7(t *testing.T) {
	c := changeOf(4, api.Edit{From: 1, To: 3, Text: "xyz"})
	parted := changeOf(4, api.Edit{From: 1, To: 2, Text: "x"}, api.Edit{From: 2, To: 2}, api.Edit{From: 2, To: 3, Text: "yz"})
	for _, x := range []struct {
		at          int
		stay, other int
	}{
		{0, 0, 0}, {1, 1, 4}, {2, 1, 4}, {3, 1, 4}, {4, 5, 5},
		{-1, -1, -1}, {5, 5, 5}, {6, 6, 6}, {math.MinInt, math.MinInt, math.MinInt}, {math.MaxInt, math.MaxInt, math.MaxInt},
	} {
		for _, c := range []api.Change{c, parted} {
			if stay, other := edit.Move(c, x.at, true), edit.Move(c, x.at, false); stay != x.stay || other != x.other {
				t.Errorf("Move(%v, %d): %d, %d", c, x.at, stay, other)
			}
		}
	}
	for _, x := range []struct {
		c    api.Change
		want int
	}{{c, 5}, {parted, 5}, {one, 6}, {api.Change{}, 0}, {changeOf(3), 3}, {changeOf(3, api.Edit{From: 0, To: 3}), 0}, {changeOf(0, api.Edit{Text: "\u20ac"}, api.Edit{Text: "\xff"}), 4}, {changeOf(math.MaxInt), math.MaxInt}} {
		if got := edit.Long(x.c); got != x.want {
			t.Errorf("Long(%v): %d", x.c, got)
		}
	}
	if m := edit.Move(changeOf(math.MaxInt, api.Edit{From: 2, To: 4, Text: "x"}), math.MaxInt, true); m != math.MaxInt-1 {
		t.Error(m)
	}
	if m := edit.Move(changeOf(0, api.Edit{Text: "x"}), 0, true); m != 0 {
		t.Error(m)
	}
}

func TestP23_7All(t *testing.T) {
	moved := func(c api.Change) {
		t.Helper()
		for at := -2; at <= c.Len+2; at++ {
			for _, stay := range []bool{true, false} {
				if got, want := edit.Move(c, at, stay), plainMove(c, at, stay); got != want {
					t.Fatalf("Move(%v, %d, %v): %d", c, at, stay, got)
				}
			}
		}
		if got, want := edit.Long(c), len(made(c, whole(c.Len))); got != want {
			t.Fatalf("Long(%v): %d", c, got)
		}
	}
	for n := range 4 {
		for c := range changes(n, 2+n%2) {
			moved(c)
		}
	}
	r := rand.New(rand.NewSource(237))
	for range 10000 {
		moved(someChange(r, r.Intn(12)))
	}
}

func TestP23_8(t *testing.T) {
	for _, x := range []struct {
		s, t string
		want api.Change
	}{
		{"a\u00e9b", "a\u00e8b", changeOf(4, api.Edit{From: 1, To: 3, Text: "\u00e8"})},
		{"", "", api.Change{}},
		{"abc", "abc", changeOf(3)},
		{"\xff", "\xff", changeOf(1)},
		{"", "ab", changeOf(0, api.Edit{Text: "ab"})},
		{"ab", "", changeOf(2, api.Edit{From: 0, To: 2})},
		{"aa", "aaa", changeOf(2, api.Edit{From: 2, To: 2, Text: "a"})},
		{"aaa", "aa", changeOf(3, api.Edit{From: 2, To: 3})},
		{"abab", "ab", changeOf(4, api.Edit{From: 2, To: 4})},
		{"axb", "ayb", changeOf(3, api.Edit{From: 1, To: 2, Text: "y"})},
		{"\u00e9", "\u0129", changeOf(2, api.Edit{From: 0, To: 2, Text: "\u0129"})},                           // c3 a9, c4 a9
		{"\xc3", "\u00e9", changeOf(1, api.Edit{From: 0, To: 1, Text: "\u00e9"})},                             // no edge behind c3
		{"\xc3", "\xc3x", changeOf(1, api.Edit{From: 1, To: 1, Text: "x"})},                                   // the same, and an edge
		{"\xa9", "\u00e9", changeOf(1, api.Edit{From: 0, To: 1, Text: "\u00e9"})},                             // no edge ahead of a9
		{"\xa9", "x\xa9", changeOf(1, api.Edit{From: 0, To: 0, Text: "x"})},                                   // the same, and an edge
		{"\xe2\x82", "\u20ac", changeOf(2, api.Edit{From: 0, To: 2, Text: "\u20ac"})},                         // edges within the first alone
		{"\xe2\x82x\xac", "\u20ac", changeOf(4, api.Edit{From: 0, To: 4, Text: "\u20ac"})},                    // nor ahead of ac
		{"a\u20acb", "a\xe2\x82b", changeOf(5, api.Edit{From: 1, To: 4, Text: "\xe2\x82"})},                   // the b is the same
		{"\U0001f600", "\U0001f601", changeOf(4, api.Edit{From: 0, To: 4, Text: "\U0001f601"})},               // three bytes are the same
		{"e\u0301", "e\u0300", changeOf(3, api.Edit{From: 1, To: 3, Text: "\u0300"})},                         // edges of runes, not of letters
		{"\xac\xe2\x82\xac", "\xac", changeOf(4, api.Edit{From: 1, To: 4})},                                   // the first byte stands at an edge
		{"\u20ac\xac", "\xac", changeOf(4, api.Edit{From: 0, To: 3})},                                         // and the last one
		{"\xe2\xe2\x82\xac", "\xe2\x82\xac", changeOf(4, api.Edit{From: 0, To: 1})},                           // behind one e2 is an edge of s alone
		{"\xf0\x9f\x98", "\xf0\x9f\x98\x80", changeOf(3, api.Edit{From: 0, To: 3, Text: "\xf0\x9f\x98\x80"})}, // a sequence made whole
	} {
		if got := edit.Diff(x.s, x.t); !alike(got, x.want) {
			t.Errorf("Diff(%q, %q): %v", x.s, x.t, got)
		}
	}
}

// rows goes over all texts of at most so many of some parts.
func rows(most int, of ...string) []string {
	all := []string{""}
	last := all
	for range most {
		var next []string
		for _, s := range last {
			for _, part := range of {
				next = append(next, s+part)
			}
		}
		all = append(all, next...)
		last = next
	}
	return all
}

func TestP23_8All(t *testing.T) {
	for _, of := range [][]string{{"a", "b"}, {"\xc3", "\xa9", "a"}, {"\xe2", "\x82", "\xac"}, {"\u00e9", "\u00e8", "\xa9"}} {
		all := rows(4, of...)
		for _, s := range all {
			for _, u := range all {
				if got, want := edit.Diff(s, u), plainDiff(s, u); !alike(got, want) {
					t.Fatalf("Diff(%q, %q): %v, not %v", s, u, got, want)
				}
			}
		}
	}
	r := rand.New(rand.NewSource(238))
	for range 30000 {
		ahead, behind := someText(r, 4), someText(r, 4)
		s, u := ahead+someText(r, 3)+behind, ahead+someText(r, 3)+behind
		if got, want := edit.Diff(s, u), plainDiff(s, u); !alike(got, want) {
			t.Fatalf("Diff(%q, %q): %v, not %v", s, u, got, want)
		}
	}
}

// spare is a change whose list has room behind its edits, with something in it.
func spare(c api.Change) (api.Change, []api.Edit) {
	l := append(slices.Clone(c.Edits), api.Edit{From: 7, To: 7, Text: "spare"}, api.Edit{From: 9, To: 9, Text: "room"})
	return api.Change{Len: c.Len, Edits: l[:len(c.Edits)]}, l
}

// written writes over a change, and over its list's spare room.
func written(c api.Change) {
	l := c.Edits[:cap(c.Edits)]
	for i := range l {
		l[i] = api.Edit{From: -1, To: -1, Text: "written"}
	}
}

// TestShare is that what is handed in stays as it is, its spare room too, and that answers share nothing with it, or with one another.
func TestShare(t *testing.T) {
	r := rand.New(rand.NewSource(239))
	for range 3000 {
		s := someText(r, 6)
		a, all := spare(someChange(r, len(s)))
		b, both := spare(someChange(r, len(s)))
		then, after := spare(someChange(r, edit.Long(a)))
		was := slices.Concat(all, both, after)
		calls := []func() api.Change{
			func() api.Change { c, _ := edit.Norm(a); return c },
			func() api.Change { c, _ := edit.Invert(s, a); return c },
			func() api.Change { c, _ := edit.Compose(a, then); return c },
			func() api.Change { c, _ := edit.Transform(a, b, true); return c },
			func() api.Change { c, _ := edit.Transform(a, b, false); return c },
		}
		for i, call := range calls {
			want := call()
			keep := api.Change{Len: want.Len, Edits: slices.Clone(want.Edits)}
			written(want)
			if got := call(); !alike(got, keep) {
				t.Fatalf("call %d of %q, %v, %v, %v: %v, then %v", i, s, a, b, then, keep, got)
			}
		}
		edit.Check(a)
		edit.Apply(s, a)
		edit.Move(a, 1, true)
		edit.Long(a)
		if !slices.Equal(slices.Concat(all, both, after), was) {
			t.Fatalf("%q, %v, %v, %v", s, a, b, then)
		}
	}
}

// quick is that something takes a bounded time, which it is far below if it goes through what is given but once.
func quick(t *testing.T, what string, do func()) {
	t.Helper()
	begin := time.Now()
	do()
	if took := time.Since(begin); took > 5*time.Second {
		t.Errorf("%s: %v", what, took)
	}
}

// TestLong is texts and changes as long as may come.
func TestLong(t *testing.T) {
	const n = 300000
	var a, b, touching api.Change
	a.Len, b.Len, touching.Len = 3*n, 3*n, 3*n
	for i := range n {
		a.Edits = append(a.Edits, api.Edit{From: 3 * i, To: 3*i + 1, Text: "x"})
		b.Edits = append(b.Edits, api.Edit{From: 3*i + 1, To: 3*i + 2, Text: "yz"})
		touching.Edits = append(touching.Edits, api.Edit{From: 3 * i, To: 3*i + 3, Text: "abc"})
	}
	s := strings.Repeat("abc", n)
	quick(t, "Norm", func() {
		if c, _ := edit.Norm(touching); !alike(c, changeOf(3*n, api.Edit{From: 0, To: 3 * n, Text: s})) {
			t.Error(len(c.Edits))
		}
	})
	quick(t, "Apply, Invert", func() {
		u, _ := edit.Apply(s, b)
		v, _ := edit.Invert(s, b)
		if back, e := edit.Apply(u, v); back != s || e != api.OK {
			t.Error(len(back), e)
		}
	})
	quick(t, "Transform, Compose", func() {
		x, _ := edit.Transform(b, a, true)
		y, _ := edit.Transform(a, b, false)
		c, _ := edit.Compose(a, x)
		d, e := edit.Compose(b, y)
		if !alike(c, d) || e != api.OK || len(c.Edits) != n {
			t.Error(len(c.Edits), len(d.Edits), e)
		}
		if c, _ = edit.Compose(touching, touching); len(c.Edits) != 1 {
			t.Error(len(c.Edits))
		}
	})
	quick(t, "Diff", func() {
		for range 50 {
			if c := edit.Diff(s+"\u00e9"+s, s+"\u00e8"+s); c.Edits[0] != (api.Edit{From: 3 * n, To: 3*n + 2, Text: "\u00e8"}) {
				t.Error(c)
			}
		}
	})
	quick(t, "Move", func() {
		one := changeOf(3*n, api.Edit{From: 1, To: 3 * n, Text: s})
		for at := range 200000 {
			if m := edit.Move(one, at+1, true); m != 1 {
				t.Fatal(m)
			}
		}
	})
}
