package norm_test

import (
	"slices"
	"testing"

	"kerf/api"
	"kerf/norm"
	"kerf/utf"
)

// TestP18_1Order has every line at its first and its last rune, and those beside them.
func TestP18_1Order(t *testing.T) {
	x := bookOf(t)
	for _, line := range x.orders {
		for _, r := range []int{line[0], line[1], (line[0] + line[1]) / 2} {
			if got := norm.Order(rune(r)); got != line[2] {
				t.Errorf("%x: %d; want %d", r, got, line[2])
			}
		}
		for _, r := range []int{line[0] - 1, line[1] + 1} {
			if got, want := norm.Order(rune(r)), x.order(rune(r)); got != want {
				t.Errorf("beside %x: %x: %d; want %d", line[0], r, got, want)
			}
		}
	}
	for r, want := range map[rune]int{
		0x2ff: 0, 0x300: 230, 0x314: 230, 0x315: 232, 0x316: 220, 0x31a: 232, 0x31b: 216, 0x327: 202, 0x334: 1, 0x338: 1, 0x339: 220, 0x344: 230, 0x345: 240, 0x346: 230, 0x347: 0,
		0x5b3: 0, 0x5b4: 14, 0x5b5: 0, 0x93c: 7, 0x93d: 0, 0x94d: 9, 0x3098: 0, 0x3099: 8, 0x309a: 8, 0x309b: 0, 0: 0, 'a': 0, 0xac00: 0, api.MaxRune: 0, api.Instead: 0,
	} {
		if got := norm.Order(r); got != want {
			t.Errorf("%x: %d; want %d", r, got, want)
		}
	}
	for _, r := range noRunes {
		if got := norm.Order(r); got != 0 {
			t.Errorf("%x: %d", r, got)
		}
	}
}

// TestP18_1Apart has runes by hand: of one step, of several, of both tables, of none.
func TestP18_1Apart(t *testing.T) {
	for _, c := range []struct {
		r     rune
		d, kd string
	}{
		{0xe9, "e\u0301", "e\u0301"},
		{0x1e69, "s\u0323\u0307", "s\u0323\u0307"},
		{0x1ead, "a\u0323\u0302", "a\u0323\u0302"},
		{0x390, "\u03b9\u0308\u0301", "\u03b9\u0308\u0301"},
		{0x1d5, "U\u0308\u0304", "U\u0308\u0304"},
		{0x212b, "A\u030a", "A\u030a"},
		{0x2126, "\u03a9", "\u03a9"},
		{0x340, "\u0300", "\u0300"},
		{0x344, "\u0308\u0301", "\u0308\u0301"},
		{0x958, "\u0915\u093c", "\u0915\u093c"},
		{0x17f, "\u017f", "s"},
		{0x1e9b, "\u017f\u0307", "s\u0307"},
		{0xfb03, "\ufb03", "ffi"},
		{0xfb00, "\ufb00", "ff"},
		{0xbc, "\u00bc", "1\u20444"},
		{0x2026, "\u2026", "..."},
		{0xa0, "\u00a0", " "},
		{0xff76, "\uff76", "\u30ab"},
		{0xff9e, "\uff9e", "\u3099"},
		{0xff9f, "\uff9f", "\u309a"},
		{'a', "a", "a"}, {0, "\x00", "\x00"}, {0x301, "\u0301", "\u0301"}, {0x4e00, "\u4e00", "\u4e00"}, {api.Instead, "\ufffd", "\ufffd"}, {api.MaxRune, "\U0010ffff", "\U0010ffff"}, {0xd7ff, "\ud7ff", "\ud7ff"}, {0xe000, "\ue000", "\ue000"},
		{0xac00, "\u1100\u1161", "\u1100\u1161"}, {0xac01, "\u1100\u1161\u11a8", "\u1100\u1161\u11a8"}, {0xac1b, "\u1100\u1161\u11c2", "\u1100\u1161\u11c2"}, {0xac1c, "\u1100\u1162", "\u1100\u1162"},
		{0xae4b, "\u1100\u1175\u11c2", "\u1100\u1175\u11c2"}, {0xae4c, "\u1101\u1161", "\u1101\u1161"}, {0xd788, "\u1112\u1175", "\u1112\u1175"}, {0xd7a3, "\u1112\u1175\u11c2", "\u1112\u1175\u11c2"},
		{0xabff, "\uabff", "\uabff"}, {0xd7a4, "\ud7a4", "\ud7a4"}, {0x1100, "\u1100", "\u1100"}, {0x11a7, "\u11a7", "\u11a7"},
	} {
		for _, form := range forms {
			want := c.d
			if form == api.FormKD || form == api.FormKC {
				want = c.kd
			}
			if got := norm.Apart(c.r, form); utf.Text(got) != want {
				t.Errorf("%x by %d: %x; want %+q", c.r, form, got, want)
			}
		}
		for _, form := range none {
			if got := norm.Apart(c.r, form); !slices.Equal(got, []rune{c.r}) {
				t.Errorf("%x by %d: %x", c.r, form, got)
			}
		}
	}
}

// TestP18_1Wrong has numbers that are no runes.
func TestP18_1Wrong(t *testing.T) {
	for _, r := range noRunes {
		for _, form := range slices.Concat(forms, none) {
			if got := norm.Apart(r, form); len(got) != 0 {
				t.Errorf("%x by %d: %x", r, form, got)
			}
		}
	}
}

// TestP18_1Lines has every line of both tables, and the runes beside its own.
func TestP18_1Lines(t *testing.T) {
	x := bookOf(t)
	for _, line := range slices.Concat(x.apart, x.also) {
		for _, r := range slices.Concat(line, []rune{line[0] - 1, line[0] + 1}) {
			for _, form := range slices.Concat(forms, none) {
				if got, want := norm.Apart(r, form), x.wholly(r, form); !slices.Equal(got, want) {
					t.Errorf("%x by %d: %x; want %x", r, form, got, want)
				}
			}
		}
	}
}

// TestP18_1Syllables has some of all of them, with each of the thirds and of the seconds.
func TestP18_1Syllables(t *testing.T) {
	x := bookOf(t)
	for r := rune(0xac00); r <= 0xd7a3; r += 17 {
		for _, form := range forms {
			if got, want := norm.Apart(r, form), x.wholly(r, form); !slices.Equal(got, want) {
				t.Errorf("%x by %d: %x; want %x", r, form, got, want)
			}
		}
	}
}

// TestP18_1New is that each answer is a new list.
func TestP18_1New(t *testing.T) {
	for _, r := range []rune{'a', 0x1e69, 0xac01, 0xfb03} {
		for _, form := range []int{api.FormD, api.FormKC, 9} {
			one := norm.Apart(r, form)
			want := slices.Clone(one)
			other := norm.Apart(r, form)
			clear(one[:cap(one)])
			if !slices.Equal(other, want) || !slices.Equal(norm.Apart(r, form), want) {
				t.Errorf("%x by %d", r, form)
			}
		}
	}
}

// TestP18_2 has every line of the table, the other way round too, and those that are never made again.
func TestP18_2(t *testing.T) {
	x := bookOf(t)
	made := 0
	for _, line := range x.apart {
		if len(line) == 2 {
			heldJoin(t, x, line[1], line[0])
			heldJoin(t, x, line[0], line[1])
			heldJoin(t, x, line[1], 0)
			continue
		}
		r, ok := norm.Join(line[1], line[2])
		switch out := slices.Contains(x.out, line[0]); {
		case out && (ok || r != 0), !out && (!ok || r != line[0]):
			t.Errorf("%x: %x, %v", line, r, ok)
		case ok:
			made++
		}
		heldJoin(t, x, line[2], line[1])
		heldJoin(t, x, line[1], line[1])
		heldJoin(t, x, line[0], line[2])
		heldJoin(t, x, line[1], line[2]+1)
	}
	if made != 259 {
		t.Errorf("%d are made", made)
	}
	for _, line := range x.also { // what falls apart by the other table is never made of it
		if len(line) == 3 {
			heldJoin(t, x, line[1], line[2])
		}
	}
}

func heldJoin(t *testing.T, x *book, a, b rune) {
	t.Helper()
	got, ok := norm.Join(a, b)
	if want, there := x.join(a, b); got != want || ok != there {
		t.Errorf("%x and %x: %x, %v; want %x, %v", a, b, got, ok, want, there)
	}
}

// TestP18_2Hand has pairs by hand.
func TestP18_2Hand(t *testing.T) {
	for _, c := range []struct{ a, b, want rune }{
		{'e', 0x301, 0xe9}, {0x301, 'e', 0}, {0xfc, 0x301, 0x1d8}, {0x1e63, 0x307, 0x1e69}, {0x1e61, 0x323, 0}, {0x308, 0x301, 0}, {0x915, 0x93c, 0}, {0x5d9, 0x5b4, 0}, {0x30ab, 0x3099, 0x30ac}, {'f', 'f', 0}, {'I', 'J', 0}, {'A', 0x30a, 0xc5},
		{0x1100, 0x1161, 0xac00}, {0x1100, 0x1175, 0xae30}, {0x1112, 0x1161, 0xd558}, {0x1112, 0x1175, 0xd788}, {0x10ff, 0x1161, 0}, {0x1113, 0x1161, 0}, {0x1100, 0x1160, 0}, {0x1100, 0x1176, 0}, {0x1161, 0x1100, 0}, {0x1100, 0x11a8, 0}, {0x1161, 0x11a8, 0},
		{0xac00, 0x11a8, 0xac01}, {0xac00, 0x11c2, 0xac1b}, {0xac00, 0x11a7, 0}, {0xac00, 0x11c3, 0}, {0xac01, 0x11a8, 0}, {0xac1b, 0x11a8, 0}, {0xac1c, 0x11a8, 0xac1d}, {0xd788, 0x11c2, 0xd7a3}, {0xd788, 0x11a8, 0xd789}, {0xd7a3, 0x11a8, 0}, {0xd7a4, 0x11a8, 0}, {0xabe4, 0x11a8, 0}, {0xac00, 0x1161, 0}, {0x11a8, 0xac00, 0},
		{0, 0, 0}, {'a', 'b', 0}, {api.Instead, 0x301, 0}, {api.MaxRune, api.MaxRune, 0},
	} {
		if got, ok := norm.Join(c.a, c.b); got != c.want || ok != (c.want != 0) {
			t.Errorf("%x and %x: %x, %v; want %x", c.a, c.b, got, ok, c.want)
		}
	}
}

// TestP18_2Syllables has every first with every second, and some with every third.
func TestP18_2Syllables(t *testing.T) {
	x := bookOf(t)
	for a := rune(0x10fe); a <= 0x1115; a++ {
		for b := rune(0x115e); b <= 0x1178; b++ {
			heldJoin(t, x, a, b)
		}
	}
	for _, a := range []rune{0xabff, 0xac00, 0xac01, 0xac1b, 0xac1c, 0xc548, 0xd788, 0xd789, 0xd7a3, 0xd7a4} {
		for b := rune(0x11a5); b <= 0x11c6; b++ {
			heldJoin(t, x, a, b)
		}
	}
}

// TestP18_2Wrong has numbers that are no runes.
func TestP18_2Wrong(t *testing.T) {
	for _, a := range noRunes {
		for _, b := range slices.Concat(noRunes, []rune{'a', 0x301, 0x1161, 0x11a8}) {
			if r, ok := norm.Join(a, b); r != 0 || ok {
				t.Errorf("%x and %x: %x, %v", a, b, r, ok)
			}
			if r, ok := norm.Join(b, a); r != 0 || ok {
				t.Errorf("%x and %x: %x, %v", b, a, r, ok)
			}
		}
	}
}

// TestTables has what the program leans on: a rune has one line, two runes make one; what is made of two is a starter, and a rune below hex 80 is one that never falls apart and joins nothing ahead of it.
func TestTables(t *testing.T) {
	x := bookOf(t)
	seen, pairs := make(map[rune]int), make(map[[2]rune]int)
	for _, line := range slices.Concat(x.apart, x.also) {
		if seen[line[0]]++; seen[line[0]] > 1 || line[0] < 0x80 || len(line) < 2 || len(line) > 4 {
			t.Errorf("%x", line)
		}
	}
	for _, line := range x.apart {
		if len(line) != 3 || slices.Contains(x.out, line[0]) {
			continue
		}
		pair := [2]rune{line[1], line[2]}
		if pairs[pair]++; pairs[pair] > 1 || x.order(line[0]) > 0 || line[2] < 0x80 {
			t.Errorf("%x", line)
		}
	}
	for _, line := range x.orders {
		if line[0] < 0x80 || line[1] < line[0] || line[2] < 1 {
			t.Errorf("%x", line)
		}
	}
}
