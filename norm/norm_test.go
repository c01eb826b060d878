package norm_test

import (
	"math"
	"math/rand"
	"slices"
	"strings"
	"testing"

	"kerf/api"
	"kerf/norm"
	"kerf/utf"
)

// TestP18_3Examples has texts by hand, in all four forms.
func TestP18_3Examples(t *testing.T) {
	for _, c := range []struct{ s, d, c, kd, kc string }{
		// the chapter's
		{"\u00e9", "e\u0301", "\u00e9", "e\u0301", "\u00e9"},
		{"e\u0301", "e\u0301", "\u00e9", "e\u0301", "\u00e9"},
		{"a\u0323\u0301", "a\u0323\u0301", "\u1ea1\u0301", "a\u0323\u0301", "\u1ea1\u0301"},
		{"a\u0301\u0323", "a\u0323\u0301", "\u1ea1\u0301", "a\u0323\u0301", "\u1ea1\u0301"},
		{"\u212b", "A\u030a", "\u00c5", "A\u030a", "\u00c5"},
		{"\ufb03", "\ufb03", "\ufb03", "ffi", "ffi"},
		{"\uac01", "\u1100\u1161\u11a8", "\uac01", "\u1100\u1161\u11a8", "\uac01"},
		{"e\xff\u0301", "e\xff\u0301", "e\xff\u0301", "e\xff\u0301", "e\xff\u0301"},
		{"\u0344", "\u0308\u0301", "\u0308\u0301", "\u0308\u0301", "\u0308\u0301"},
		// nothing, and what is plain
		{"", "", "", "", ""},
		{"ab\x00\x7f", "ab\x00\x7f", "ab\x00\x7f", "ab\x00\x7f", "ab\x00\x7f"},
		// runs of marks: of one order, rising, falling, more than two, with no starter ahead
		{"x\u0301\u0300\u0302", "x\u0301\u0300\u0302", "x\u0301\u0300\u0302", "x\u0301\u0300\u0302", "x\u0301\u0300\u0302"},
		{"x\u0334\u0327\u0323\u0301", "x\u0334\u0327\u0323\u0301", "x\u0334\u0327\u0323\u0301", "x\u0334\u0327\u0323\u0301", "x\u0334\u0327\u0323\u0301"},
		{"x\u0301\u0323\u0327\u0334", "x\u0334\u0327\u0323\u0301", "x\u0334\u0327\u0323\u0301", "x\u0334\u0327\u0323\u0301", "x\u0334\u0327\u0323\u0301"},
		{"\u0345\u0315\u0301\u3099\u0334", "\u0334\u3099\u0301\u0315\u0345", "\u0334\u3099\u0301\u0315\u0345", "\u0334\u3099\u0301\u0315\u0345", "\u0334\u3099\u0301\u0315\u0345"},
		{"\u0301\u0323e\u0301", "\u0323\u0301e\u0301", "\u0323\u0301\u00e9", "\u0323\u0301e\u0301", "\u0323\u0301\u00e9"},
		{"\u0301\u0323\u0300\u0324\u0302\u0325", "\u0323\u0324\u0325\u0301\u0300\u0302", "\u0323\u0324\u0325\u0301\u0300\u0302", "\u0323\u0324\u0325\u0301\u0300\u0302", "\u0323\u0324\u0325\u0301\u0300\u0302"},
		{"\u0308\u0301", "\u0308\u0301", "\u0308\u0301", "\u0308\u0301", "\u0308\u0301"},
		// a mark that is blocked: by one of its own order, by a starter, by a fault
		{"e\u0334\u0301", "e\u0334\u0301", "\u00e9\u0334", "e\u0334\u0301", "\u00e9\u0334"},
		{"e\u0305\u0301", "e\u0305\u0301", "e\u0305\u0301", "e\u0305\u0301", "e\u0305\u0301"},
		{"e\u4e00\u0301", "e\u4e00\u0301", "e\u4e00\u0301", "e\u4e00\u0301", "e\u4e00\u0301"},
		{"e\u0334\xff\u0301", "e\u0334\xff\u0301", "e\u0334\xff\u0301", "e\u0334\xff\u0301", "e\u0334\xff\u0301"},
		{"\xffe\u0301", "\xffe\u0301", "\xff\u00e9", "\xffe\u0301", "\xff\u00e9"},
		{"e\ufffd\u0301", "e\ufffd\u0301", "e\ufffd\u0301", "e\ufffd\u0301", "e\ufffd\u0301"},
		{"a\u0323\u0331\u0302", "a\u0323\u0331\u0302", "\u1ead\u0331", "a\u0323\u0331\u0302", "\u1ead\u0331"},
		// a mark that was in the way is gone
		{"e\u0302\u0301", "e\u0302\u0301", "\u00ea\u0301", "e\u0302\u0301", "\u00ea\u0301"},
		{"a\u0302\u0301", "a\u0302\u0301", "\u1ea5", "a\u0302\u0301", "\u1ea5"},
		// joining goes on from what was joined
		{"s\u0307\u0323", "s\u0323\u0307", "\u1e69", "s\u0323\u0307", "\u1e69"},
		{"u\u0344", "u\u0308\u0301", "\u01d8", "u\u0308\u0301", "\u01d8"},
		{"\u03b9\u0308\u0301\u0301", "\u03b9\u0308\u0301\u0301", "\u0390\u0301", "\u03b9\u0308\u0301\u0301", "\u0390\u0301"},
		{"A\u0302\u0301\u0323", "A\u0323\u0302\u0301", "\u1eac\u0301", "A\u0323\u0302\u0301", "\u1eac\u0301"},
		// never made again
		{"\u0958", "\u0915\u093c", "\u0915\u093c", "\u0915\u093c", "\u0915\u093c"},
		{"\ufb1d", "\u05d9\u05b4", "\u05d9\u05b4", "\u05d9\u05b4", "\u05d9\u05b4"},
		{"\u2126\u0301", "\u03a9\u0301", "\u038f", "\u03a9\u0301", "\u038f"},
		{"e\u0340", "e\u0300", "\u00e8", "e\u0300", "\u00e8"},
		// by both tables
		{"\u1e9b\u0323", "\u017f\u0323\u0307", "\u1e9b\u0323", "s\u0323\u0307", "\u1e69"},
		{"\uff76\uff9e", "\uff76\uff9e", "\uff76\uff9e", "\u30ab\u3099", "\u30ac"},
		{"\u30ab\u0301\uff9e", "\u30ab\u0301\uff9e", "\u30ab\u0301\uff9e", "\u30ab\u3099\u0301", "\u30ac\u0301"},
		{"\u017f\u0301", "\u017f\u0301", "\u017f\u0301", "s\u0301", "\u015b"},
		{"\u2026\u00bc\u00a0", "\u2026\u00bc\u00a0", "\u2026\u00bc\u00a0", "...1\u20444 ", "...1\u20444 "},
		{"\uff21\u0301", "\uff21\u0301", "\uff21\u0301", "A\u0301", "\u00c1"},
		// Hangul: nothing may stand between, and a third has its place
		{"\u1100\u1161", "\u1100\u1161", "\uac00", "\u1100\u1161", "\uac00"},
		{"\u1112\u1175\u11c2", "\u1112\u1175\u11c2", "\ud7a3", "\u1112\u1175\u11c2", "\ud7a3"},
		{"\uac00\u11a8", "\u1100\u1161\u11a8", "\uac01", "\u1100\u1161\u11a8", "\uac01"},
		{"\uac01\u11a8", "\u1100\u1161\u11a8\u11a8", "\uac01\u11a8", "\u1100\u1161\u11a8\u11a8", "\uac01\u11a8"},
		{"\uac00\u11a7", "\u1100\u1161\u11a7", "\uac00\u11a7", "\u1100\u1161\u11a7", "\uac00\u11a7"},
		{"\uac00\u11c3", "\u1100\u1161\u11c3", "\uac00\u11c3", "\u1100\u1161\u11c3", "\uac00\u11c3"},
		{"\u1113\u1161", "\u1113\u1161", "\u1113\u1161", "\u1113\u1161", "\u1113\u1161"},
		{"\u1100\u1176", "\u1100\u1176", "\u1100\u1176", "\u1100\u1176", "\u1100\u1176"},
		{"\u1100\u0301\u1161", "\u1100\u0301\u1161", "\u1100\u0301\u1161", "\u1100\u0301\u1161", "\u1100\u0301\u1161"},
		{"\u1100\u1161\u0334\u11a8", "\u1100\u1161\u0334\u11a8", "\uac00\u0334\u11a8", "\u1100\u1161\u0334\u11a8", "\uac00\u0334\u11a8"},
		{"\u1100\xff\u1161", "\u1100\xff\u1161", "\u1100\xff\u1161", "\u1100\xff\u1161", "\u1100\xff\u1161"},
		{"\u1100\u1100\u1161\u1161", "\u1100\u1100\u1161\u1161", "\u1100\uac00\u1161", "\u1100\u1100\u1161\u1161", "\u1100\uac00\u1161"},
		// faults stay: of one byte, of several, among marks, cut off at the end
		{"\xff", "\xff", "\xff", "\xff", "\xff"},
		{"\xed\xa0\x80\u00e9\xc0\x80", "\xed\xa0\x80e\u0301\xc0\x80", "\xed\xa0\x80\u00e9\xc0\x80", "\xed\xa0\x80e\u0301\xc0\x80", "\xed\xa0\x80\u00e9\xc0\x80"},
		{"e\u0301\u0323\x80\u0301\u0323", "e\u0323\u0301\x80\u0323\u0301", "\u00e9\u0323\x80\u0323\u0301", "e\u0323\u0301\x80\u0323\u0301", "\u00e9\u0323\x80\u0323\u0301"},
		{"\u0301\x80\u0323", "\u0301\x80\u0323", "\u0301\x80\u0323", "\u0301\x80\u0323", "\u0301\x80\u0323"},
		{"e\u0301\xe2\x82", "e\u0301\xe2\x82", "\u00e9\xe2\x82", "e\u0301\xe2\x82", "\u00e9\xe2\x82"},
		{"\ufb00\xf0\x9f\x98", "\ufb00\xf0\x9f\x98", "\ufb00\xf0\x9f\x98", "ff\xf0\x9f\x98", "ff\xf0\x9f\x98"},
		{"e\xcc", "e\xcc", "e\xcc", "e\xcc", "e\xcc"},
		{"\ufffd\xff\ufffd", "\ufffd\xff\ufffd", "\ufffd\xff\ufffd", "\ufffd\xff\ufffd", "\ufffd\xff\ufffd"},
	} {
		for form, want := range []string{c.d, c.c, c.kd, c.kc} {
			if got := norm.Form(c.s, form); got != want {
				t.Errorf("%+q by %d: %+q; want %+q", c.s, form, got, want)
			}
			if got := norm.Is(c.s, form); got != (c.s == want) {
				t.Errorf("%+q by %d: Is %v", c.s, form, got)
			}
			if !norm.Is(want, form) {
				t.Errorf("%+q by %d: is not its own form", want, form)
			}
		}
		for _, form := range none {
			if got := norm.Form(c.s, form); got != c.s || !norm.Is(c.s, form) {
				t.Errorf("%+q by %d: %+q", c.s, form, got)
			}
		}
	}
}

// TestP18_3Lines has every line of the tables: the rune by itself, behind others, with marks behind it.
func TestP18_3Lines(t *testing.T) {
	x := bookOf(t)
	for _, line := range slices.Concat(x.apart, x.also) {
		one, two := utf.Encode(line[0]), utf.Text(line[1:])
		for _, s := range []string{one, two, one + one, "e" + one, one + "\u0301\u0323\u0334", "\u0301" + two + "\u0327", utf.Encode(line[1]) + "\u0334" + utf.Text(line[2:])} {
			heldForms(t, x, s)
		}
	}
}

func heldForms(t *testing.T, x *book, s string) {
	t.Helper()
	for _, form := range forms {
		got, want := norm.Form(s, form), x.form(s, form)
		if got != want {
			t.Fatalf("%+q by %d: %+q; want %+q", s, form, got, want)
		}
		if norm.Is(s, form) != (want == s) {
			t.Fatalf("%+q by %d: Is %v", s, form, norm.Is(s, form))
		}
	}
}

// TestP18_3All has all short texts of some few parts.
func TestP18_3All(t *testing.T) {
	x := bookOf(t)
	for _, parts := range [][]string{
		{"a", "\u0302", "\u0323", "\u0327", "\u0301", "\xff"},
		{"\u1100", "\u1161", "\u11a8", "\uac00", "\u0301", "\x80"},
		{"\u30ab", "\uff9e", "\uff76", "\u0334", "\u0345", "s"},
	} {
		for long := range 5 {
			for s := range rows(long, parts...) {
				heldForms(t, x, s)
			}
		}
	}
}

// TestP18_3Some has texts of any bytes.
func TestP18_3Some(t *testing.T) {
	x := bookOf(t)
	r := rand.New(rand.NewSource(183))
	for range 4000 {
		heldForms(t, x, someText(r, 12))
	}
	for range 1000 {
		b := make([]byte, r.Intn(12))
		for at := range b {
			b[at] = byte(r.Intn(256))
		}
		heldForms(t, x, string(b))
	}
}

// TestP18_3Long has runs of marks that are long.
func TestP18_3Long(t *testing.T) {
	const many = 3000
	s := "a" + strings.Repeat("\u0301\u0323\u0300\u0334", many)
	want := strings.Repeat("\u0334", many) + strings.Repeat("\u0323", many) + strings.Repeat("\u0301\u0300", many)
	if norm.Form(s, api.FormD) != "a"+want {
		t.Error("D")
	}
	want = "\u1ea1" + strings.Replace(want, "\u0323", "", 1)
	if norm.Form(s, api.FormC) != want {
		t.Error("C")
	}
	if got := norm.Form(strings.Repeat("\u1e69\xff", many), api.FormKD); got != strings.Repeat("s\u0323\u0307\xff", many) {
		t.Error("KD")
	}
}

// TestP18_4 has texts that are the same in some forms, and not in others.
func TestP18_4(t *testing.T) {
	for _, c := range []struct {
		a, b string
		want [4]bool // by D, C, KD, KC
	}{
		{"", "", [4]bool{true, true, true, true}},
		{"", "a", [4]bool{}},
		{"a", "a", [4]bool{true, true, true, true}},
		{"a", "A", [4]bool{}},
		{"\u00e9", "e\u0301", [4]bool{true, true, true, true}},
		{"\u212b", "\u00c5", [4]bool{true, true, true, true}},
		{"\ufb01", "fi", [4]bool{false, false, true, true}},
		{"\uff76\uff9e", "\u30ac", [4]bool{false, false, true, true}},
		{"\u1e9b\u0323", "\u1e69", [4]bool{false, false, true, true}},
		{"\u1e9b\u0323", "\u017f\u0307\u0323", [4]bool{true, true, true, true}},
		{"a\u0301\u0323", "\u1ea1\u0301", [4]bool{true, true, true, true}},
		{"a\u0301\u0300", "a\u0300\u0301", [4]bool{}},
		{"\uac01", "\u1100\u1161\u11a8", [4]bool{true, true, true, true}},
		{"\uac01\u11a8", "\uac00\u11a8\u11a8", [4]bool{true, true, true, true}},
		{"\xff", "\xfe", [4]bool{}},
		{"\xff", "\ufffd", [4]bool{}},
		{"\xffe\u0301", "\xff\u00e9", [4]bool{true, true, true, true}},
		{"e\xff\u0301", "\u00e9\xff", [4]bool{}},
	} {
		for form, want := range c.want {
			if norm.Equal(c.a, c.b, form) != want || norm.Equal(c.b, c.a, form) != want {
				t.Errorf("%+q and %+q by %d: want %v", c.a, c.b, form, want)
			}
		}
		for _, form := range none {
			if norm.Equal(c.a, c.b, form) != (c.a == c.b) || !norm.Is(c.a, form) {
				t.Errorf("%+q and %+q by %d", c.a, c.b, form)
			}
		}
	}
	if !norm.Is("abc", api.FormKC) || norm.Is("\u00e9", api.FormD) || !norm.Is("\u00e9", api.FormC) || norm.Is("\ufb01", api.FormKC) || !norm.Is("\ufb01", api.FormC) {
		t.Error("Is")
	}
}

// TestP18_5 has every place of texts by hand.
func TestP18_5(t *testing.T) {
	for _, c := range []struct {
		s           string
		d, c, kd, k []int // the safe places
	}{
		{"", []int{0}, []int{0}, []int{0}, []int{0}},
		{"a", []int{0, 1}, []int{0, 1}, []int{0, 1}, []int{0, 1}},
		{"e\u0301x", []int{0, 3, 4}, []int{0, 3, 4}, []int{0, 3, 4}, []int{0, 3, 4}},
		{"\u0301\u0323", []int{0, 4}, []int{0, 4}, []int{0, 4}, []int{0, 4}},
		{"\u1100\u1161", []int{0, 3, 6}, []int{0, 6}, []int{0, 3, 6}, []int{0, 6}},
		{"\u1161\u1161\u11a8\u11a7", []int{0, 3, 6, 9, 12}, []int{0, 9, 12}, []int{0, 3, 6, 9, 12}, []int{0, 9, 12}},
		{"\u1160\u1160\u1175\u1176\u1176", []int{0, 3, 6, 9, 12, 15}, []int{0, 3, 9, 12, 15}, []int{0, 3, 6, 9, 12, 15}, []int{0, 3, 9, 12, 15}},
		{"\u11c2\u11c2\u11c3\u1100\u1112", []int{0, 3, 6, 9, 12, 15}, []int{0, 6, 9, 12, 15}, []int{0, 3, 6, 9, 12, 15}, []int{0, 6, 9, 12, 15}},
		{"a\uac00\ud7a3", []int{0, 1, 4, 7}, []int{0, 1, 4, 7}, []int{0, 1, 4, 7}, []int{0, 1, 4, 7}},
		{"a\u00e9\u0344\u0340", []int{0, 1, 7}, []int{0, 1, 7}, []int{0, 1, 7}, []int{0, 1, 7}},
		{"\uff76\uff9e\uff9f", []int{0, 3, 6, 9}, []int{0, 3, 6, 9}, []int{0, 9}, []int{0, 9}},
		{"\xe2\x82\u0301\xff", []int{0, 1, 4, 5}, []int{0, 1, 4, 5}, []int{0, 1, 4, 5}, []int{0, 1, 4, 5}},
		{"a\ufffd\xef\xbf", []int{0, 1, 4, 5, 6}, []int{0, 1, 4, 5, 6}, []int{0, 1, 4, 5, 6}, []int{0, 1, 4, 5, 6}},
		{"\u304b\u3099\u0915\u093c", []int{0, 6, 12}, []int{0, 6, 12}, []int{0, 6, 12}, []int{0, 6, 12}},
	} {
		for form, want := range [][]int{c.d, c.c, c.kd, c.k} {
			for at := -2; at <= len(c.s)+2; at++ {
				if got := norm.Safe(c.s, at, form); got != slices.Contains(want, at) {
					t.Errorf("%+q at %d by %d: %v", c.s, at, form, got)
				}
			}
		}
		for _, form := range slices.Concat(forms, none) {
			for _, at := range []int{math.MinInt, -1, len(c.s) + 1, math.MaxInt} {
				if norm.Safe(c.s, at, form) {
					t.Errorf("%+q at %d by %d", c.s, at, form)
				}
			}
		}
		for _, form := range none {
			for at := -1; at <= len(c.s)+1; at++ {
				if got := norm.Safe(c.s, at, form); got != utf.Is(c.s, at) {
					t.Errorf("%+q at %d by %d: %v", c.s, at, form, got)
				}
			}
		}
	}
}

// TestP18_5Lines has every rune of the tables behind another.
func TestP18_5Lines(t *testing.T) {
	x := bookOf(t)
	var list []rune
	for _, line := range slices.Concat(x.apart, x.also) {
		list = append(list, line...)
	}
	for _, line := range x.orders {
		list = append(list, rune(line[0]), rune(line[1]), rune(line[0]-1), rune(line[1]+1))
	}
	slices.Sort(list)
	for _, r := range slices.Compact(list) {
		s := "a" + utf.Encode(r) + "b"
		for _, form := range forms {
			if got, want := norm.Safe(s, 1, form), x.safe(s, 1, form); got != want {
				t.Errorf("%+q by %d: %v; want %v", s, form, got, want)
			}
		}
	}
}

// TestP18_5Some has every place of any texts.
func TestP18_5Some(t *testing.T) {
	x := bookOf(t)
	r := rand.New(rand.NewSource(185))
	for range 300 {
		s := someText(r, 8)
		for at := -1; at <= len(s)+1; at++ {
			for _, form := range []int{api.FormD, api.FormC, api.FormKD, api.FormKC, -1, 4} {
				if got, want := norm.Safe(s, at, form), x.safe(s, at, form); got != want {
					t.Fatalf("%+q at %d by %d: %v; want %v", s, at, form, got, want)
				}
			}
		}
	}
}
