package norm_test

import (
	"math/rand"
	"slices"
	"strings"
	"testing"

	"kerf/api"
	"kerf/grapheme"
	"kerf/norm"
	"kerf/utf"
)

// texts are some of any bytes, one for each line of the tables, and the empty one.
func texts(t *testing.T, seed int64, many int) []string {
	t.Helper()
	x := bookOf(t)
	l := []string{""}
	for _, line := range slices.Concat(x.apart, x.also) {
		l = append(l, utf.Encode(line[0])+"\u0323\u0301", utf.Text(line[1:])+"\xff")
	}
	r := rand.New(rand.NewSource(seed))
	for range many {
		l = append(l, someText(r, 14))
	}
	return l
}

// TestP18_7 has Form of Form, for each two forms.
func TestP18_7(t *testing.T) {
	for _, s := range texts(t, 187, 400) {
		var told [4]string
		for _, form := range forms {
			told[form] = norm.Form(s, form)
		}
		for _, first := range forms {
			for _, last := range forms {
				want := last&1 | (first|last)&2 // whether it joins is the last one's, whether it is KD or KC either's
				if got := norm.Form(told[first], last); got != told[want] {
					t.Fatalf("%+q: %d, then %d: %+q; want %+q", s, first, last, got, told[want])
				}
			}
		}
	}
}

// TestP18_8 has texts cut at every place that is safe.
func TestP18_8(t *testing.T) {
	cuts := 0
	for _, s := range texts(t, 188, 250) {
		for _, form := range forms {
			whole := norm.Form(s, form)
			for at := range len(s) + 1 {
				if !norm.Safe(s, at, form) {
					continue
				}
				cuts++
				if got := norm.Form(s[:at], form) + norm.Form(s[at:], form); got != whole {
					t.Fatalf("%+q by %d, cut at %d: %+q; want %+q", s, form, at, got, whole)
				}
			}
		}
	}
	if cuts < 5000 {
		t.Errorf("%d cuts", cuts)
	}
}

// told is what a stream tells of pieces in all.
func told(x *norm.Stream, pieces []string) string {
	var b strings.Builder
	for _, p := range pieces {
		b.WriteString(x.Write([]byte(p)))
	}
	b.WriteString(x.Close())
	return b.String()
}

// TestP18_9Anywhere has short texts cut in all ways there are.
func TestP18_9Anywhere(t *testing.T) {
	for _, form := range forms {
		x := made(t, form)
		for _, s := range []string{"", "a", "\xff", "e\u0301x", "\u0301\u0323\xcc", "\u1100\u1161z", "\xe2\x82a\u0301", "\uff76\uff9e", "\uac01\u11a8", "\U0001f600\xf0\x9f"} {
			want := norm.Form(s, form)
			for where := range 1 << len(s) {
				if got := told(x, cut(s, where)); got != want {
					t.Fatalf("%+q by %d: %+q; want %+q", cut(s, where), form, got, want)
				}
			}
		}
	}
}

// TestP18_9Some has longer texts.
func TestP18_9Some(t *testing.T) {
	r := rand.New(rand.NewSource(189))
	for _, form := range forms {
		x := made(t, form)
		for range 150 {
			s := someText(r, 30)
			want := norm.Form(s, form)
			for _, pieces := range [][]string{{s}, by(s, 1), by(s, 2), by(s, 3), slices.Concat([]string{"", ""}, by(s, 5), []string{"", ""}), someCuts(r, s)} {
				if got := told(x, pieces); got != want {
					t.Fatalf("%+q by %d: %+q; want %+q", pieces, form, got, want)
				}
			}
		}
	}
}

// TestP18_10 has Equal by each form held against the others, of texts that are often the same but for their spelling.
func TestP18_10(t *testing.T) {
	r := rand.New(rand.NewSource(1810))
	var same [4]int
	for range 1500 {
		s := someText(r, 4)
		for _, other := range []string{norm.Form(s, r.Intn(4)), someText(r, 4), norm.Form(s, r.Intn(4)) + "\u0301", s + "\u0301"} {
			var equal [4]bool
			for _, form := range forms {
				if equal[form] = norm.Equal(s, other, form); equal[form] {
					same[form]++
				}
			}
			if equal[api.FormD] != equal[api.FormC] || equal[api.FormKD] != equal[api.FormKC] || equal[api.FormD] && !equal[api.FormKD] {
				t.Fatalf("%+q and %+q: %v", s, other, equal)
			}
		}
		for _, form := range forms {
			if !norm.Equal(s, norm.Form(s, form), form) {
				t.Fatalf("%+q by %d: not Equal to its Form", s, form)
			}
		}
	}
	if same[api.FormD] < 1000 || same[api.FormKD] <= same[api.FormD] {
		t.Errorf("the same: %v", same)
	}
}

// TestP18_10Plain has texts of bytes below hex 80.
func TestP18_10Plain(t *testing.T) {
	var all strings.Builder
	for a := range 0x80 {
		for b := range 0x80 {
			all.Write([]byte{byte(a), byte(b)})
		}
	}
	for _, s := range []string{"", "a", "ffi", "1/4", "...", "\x00\x7f", all.String()} {
		for _, form := range forms {
			if norm.Form(s, form) != s || !norm.Is(s, form) {
				t.Errorf("%.20q by %d", s, form)
			}
			if got := norm.Form(s+"\u00e9"+s, form); got != s+norm.Form("\u00e9", form)+s { // and where others stand beside them
				t.Errorf("%.20q by %d, beside others", s, form)
			}
		}
	}
}

// TestP18_11 has texts of any bytes: their faults stay.
func TestP18_11(t *testing.T) {
	faulty := func(s string) string {
		var b []byte
		for _, at := range utf.Faults(s) {
			b = append(b, s[at])
		}
		return string(b)
	}
	r := rand.New(rand.NewSource(1811))
	many := 0
	for _, s := range texts(t, 1811, 500) {
		b := []byte(s)
		for range r.Intn(3) {
			if len(b) > 0 {
				b[r.Intn(len(b))] = byte(r.Intn(256))
			}
		}
		s = string(b)
		want := faulty(s)
		many += len(want)
		for _, form := range forms {
			if got := faulty(norm.Form(s, form)); got != want {
				t.Fatalf("%+q by %d: %q; want %q", s, form, got, want)
			}
		}
	}
	if many < 500 {
		t.Errorf("%d faults", many)
	}
}

// TestP4 is that a text without Hangul has in both canonical forms as many letters as it has itself, each of them in that form.
func TestP4(t *testing.T) {
	hangul := func(c rune) bool { return c >= 0x1100 && c <= 0x11ff || c >= 0xac00 && c <= 0xd7a3 }
	for _, s := range texts(t, 1804, 2000) {
		if strings.ContainsFunc(s, hangul) {
			continue
		}
		for _, form := range []int{api.FormD, api.FormC} {
			var want []string
			for from, to := range grapheme.Each(s) {
				want = append(want, norm.Form(s[from:to], form))
			}
			var got []string
			formed := norm.Form(s, form)
			for from, to := range grapheme.Each(formed) {
				got = append(got, formed[from:to])
			}
			if !slices.Equal(got, want) {
				t.Fatalf("%+q by %d: %+q; want %+q", s, form, got, want)
			}
		}
	}
}
