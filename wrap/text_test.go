package wrap_test

import (
	"math/rand"
	"slices"
	"strings"
	"testing"

	"kerf/api"
	"kerf/utf"
	"kerf/wrap"
)

// box is one of a text: it has a hyphen of one cell, or none.
func box(width, blank int) api.Box { return api.Box{Width: width, Blank: blank} }

func must(b api.Box) api.Box {
	b.Must = true
	return b
}

func hyphen(b api.Box) api.Box {
	b.Hyphen = 1
	return b
}

// TestP16_4Boxes has texts of each kind.
func TestP16_4Boxes(t *testing.T) {
	for _, y := range []struct {
		s    string
		want []api.Box
	}{
		{"", nil},
		{"a", []api.Box{must(box(1, 0))}},
		{"ab cd", []api.Box{box(2, 1), must(box(2, 0))}},
		{"ab cd ", []api.Box{box(2, 1), must(box(2, 1))}},
		{"a-b", []api.Box{box(2, 0), must(box(1, 0))}},
		// blanks alone, and ahead of what is seen
		{" ", []api.Box{must(box(0, 1))}},
		{"   ", []api.Box{must(box(0, 3))}},
		{"  a", []api.Box{box(0, 2), must(box(1, 0))}},
		{" \n ", []api.Box{must(box(0, 1)), must(box(0, 1))}},
		// tabs are seen, and each box begins in column 0
		{"\t", []api.Box{must(box(8, 0))}},
		{"a\tb", []api.Box{box(8, 0), must(box(1, 0))}},
		{"a\t\tb", []api.Box{box(16, 0), must(box(1, 0))}},
		{"abc \td", []api.Box{box(3, 1), box(8, 0), must(box(1, 0))}},
		{"\t ", []api.Box{must(box(8, 1))}},
		// line ends of each kind
		{"\n", []api.Box{must(box(0, 0))}},
		{"\n\n", []api.Box{must(box(0, 0)), must(box(0, 0))}},
		{"a\nb", []api.Box{must(box(1, 0)), must(box(1, 0))}},
		{"a \nb", []api.Box{must(box(1, 1)), must(box(1, 0))}},
		{"a\vb\fc\u0085d\u2028e\u2029", []api.Box{must(box(1, 0)), must(box(1, 0)), must(box(1, 0)), must(box(1, 0)), must(box(1, 0))}},
		{"ab \r\nc", []api.Box{must(box(2, 1)), must(box(1, 0))}},
		{"ab  \rc", []api.Box{must(box(2, 2)), must(box(1, 0))}},
		{"\r\n\r", []api.Box{must(box(0, 0)), must(box(0, 0))}},
		{"\n\r", []api.Box{must(box(0, 0)), must(box(0, 0))}},
		// soft hyphens
		{"a\u00adb", []api.Box{hyphen(box(1, 0)), must(box(1, 0))}},
		{"ab\u00ad", []api.Box{must(hyphen(box(2, 0)))}},
		{"\u00ad", []api.Box{must(hyphen(box(0, 0)))}},
		{"a\u00ad\nb", []api.Box{must(hyphen(box(1, 0))), must(box(1, 0))}},
		{"a\u00ad b", []api.Box{hyphen(box(1, 1)), must(box(1, 0))}},
		{"a\u00ad\u200bb", []api.Box{hyphen(box(1, 0)), must(box(1, 0))}},
		{"a\u00ad\u0301b", []api.Box{box(1, 0), must(box(1, 0))}},
		{"a\xadb", []api.Box{must(box(3, 0))}},
		{"a\xc2\xc2\xadb", []api.Box{hyphen(box(2, 0)), must(box(1, 0))}},
		// wide letters, marks, what has no width
		{"\u4e00\u4e8c", []api.Box{box(2, 0), must(box(2, 0))}},
		{"a \u4e00\n", []api.Box{box(1, 1), must(box(2, 0))}},
		{"e\u0301 \U0001f1e6\U0001f1e7", []api.Box{box(1, 1), must(box(2, 0))}},
		{"a\u200b b", []api.Box{box(1, 1), must(box(1, 0))}},
		{"a \u200b b", []api.Box{box(1, 2), must(box(1, 0))}},
		{"\u0600 a", []api.Box{box(0, 1), must(box(1, 0))}},
		{"\u03b1", []api.Box{must(box(1, 0))}},
		// bytes that belong to no rune
		{"\xff", []api.Box{must(box(1, 0))}},
		{"\xff \xe2\x80", []api.Box{box(1, 1), must(box(2, 0))}},
		{"a\x85", []api.Box{must(box(2, 0))}},
		{"a\xe2\x80\n", []api.Box{must(box(3, 0))}},
	} {
		if got, e := wrap.Boxes(y.s, o8); e != api.OK || !slices.Equal(got, y.want) {
			t.Errorf("%q: %v, %d; want %v", y.s, got, e, y.want)
		}
	}
}

// TestP16_4Cells has what hangs on how cells are counted.
func TestP16_4Cells(t *testing.T) {
	for _, y := range []struct {
		o    api.Cells
		want []api.Box
	}{
		{api.Cells{Ambiguous: 1, Tab: 8}, []api.Box{box(8, 1), must(box(1, 0))}},
		{api.Cells{Ambiguous: 2, Tab: 8}, []api.Box{box(8, 1), must(box(2, 0))}},
		{api.Cells{Ambiguous: 1, Tab: 1}, []api.Box{box(2, 1), must(box(1, 0))}},
		{api.Cells{Ambiguous: 2, Tab: 64}, []api.Box{box(64, 1), must(box(2, 0))}},
		{api.Cells{Ambiguous: 1, Tab: 8, Start: 5}, []api.Box{box(8, 1), must(box(1, 0))}},
		{api.Cells{Ambiguous: 1, Tab: 7, Start: api.MaxStart}, []api.Box{box(7, 1), must(box(1, 0))}},
	} {
		if got, e := wrap.Boxes("a\t \u03b1", y.o); e != api.OK || !slices.Equal(got, y.want) {
			t.Errorf("%v: %v, %d; want %v", y.o, got, e, y.want)
		}
	}
	for _, o := range refused {
		for _, s := range []string{"", "a", "a\n\xff", strings.Repeat("\n", api.MaxBoxes+1)} {
			if got, e := wrap.Boxes(s, o); e != api.ErrArg || len(got) != 0 {
				t.Errorf("%v: %v, %d", o, got, e)
			}
		}
	}
}

// TestP16_4Most has as many pieces as may be, and more; and as many cells, and more.
func TestP16_4Most(t *testing.T) {
	for _, piece := range []string{"a ", "\n", "\u4e00", "x\r\n", "a\u00ad"} {
		s := strings.Repeat(piece, api.MaxBoxes)
		if got, e := wrap.Boxes(s, o8); e != api.OK || len(got) != api.MaxBoxes || !got[api.MaxBoxes-1].Must {
			t.Errorf("%q: %d boxes, %d", piece, len(got), e)
		}
		for _, more := range []string{piece, "b", s} {
			if got, e := wrap.Boxes(s+more, o8); e != api.ErrMany || len(got) != 0 {
				t.Errorf("%q and %.9q: %d boxes, %d", piece, more, len(got), e)
			}
		}
	}
	for _, y := range []struct {
		seen, blank int
		want        api.Box
	}{
		{api.MaxCells, api.MaxCells, box(api.MaxCells, api.MaxCells)},
		{api.MaxCells - 1, api.MaxCells - 1, box(api.MaxCells-1, api.MaxCells-1)},
		{api.MaxCells + 1, 0, box(api.MaxCells, 0)},
		{1, api.MaxCells + 1, box(1, api.MaxCells)},
		{api.MaxCells + 7, 3, box(api.MaxCells, 3)},
		{3 * api.MaxCells, 3 * api.MaxCells, box(api.MaxCells, api.MaxCells)},
	} {
		s := strings.Repeat("a", y.seen) + strings.Repeat(" ", y.blank)
		if got, e := wrap.Boxes(s+"\u4e00", o8); e != api.OK || !slices.Equal(got, []api.Box{y.want, must(box(2, 0))}) {
			t.Errorf("%d, %d: %v, %d", y.seen, y.blank, got, e)
		}
		if got, e := wrap.Boxes(s+"\n", o8); e != api.OK || !slices.Equal(got, []api.Box{must(y.want)}) {
			t.Errorf("%d, %d, at the end of a line: %v, %d", y.seen, y.blank, got, e)
		}
	}
}

// shown is that Boxes, Rows and Fill are what the chapter tells.
func shown(t *testing.T, x reading, s string, o api.Cells, w api.Wrap) []api.Row {
	t.Helper()
	boxes, bounds := x.boxes(s, o)
	if got, e := wrap.Boxes(s, o); e != api.OK || !slices.Equal(got, boxes) {
		t.Fatalf("%q, %v: %v, %d; want %v", s, o, got, e, boxes)
	}
	l := sheet{boxes, w}
	ends := l.greedy()
	if w.How == api.WrapEven {
		ends = l.even()
	}
	want := x.rows(s, l, bounds, ends)
	got, e := wrap.Rows(s, o, w)
	if e != api.OK || !slices.Equal(got, want) {
		t.Fatalf("%q, %v, %v: %v, %d; want %v", s, o, w, got, e, want)
	}
	if text, e := wrap.Fill(s, o, w); e != api.OK || text != fill(s, want) {
		t.Fatalf("%q, %v, %v: %q, %d; want %q", s, o, w, text, e, fill(s, want))
	}
	return got
}

// someWrap is of few cells.
func someWrap(r *rand.Rand, how int) api.Wrap {
	w := api.Wrap{Width: 1 + r.Intn(12), How: how}
	if r.Intn(2) == 0 {
		w.First, w.Rest = r.Intn(8), r.Intn(8)
	}
	return w
}

// TestP16_5Texts has any texts, both ways.
func TestP16_5Texts(t *testing.T) {
	x := plain(t)
	r := rand.New(rand.NewSource(165))
	hyphens, indents := 0, 0
	each := func(s string, how int) {
		w := someWrap(r, how)
		for _, row := range shown(t, x, s, options[r.Intn(len(options))], w) {
			if row.Hyphen {
				hyphens++
			}
			if row.From > 0 && row.Indent == w.First && w.First != w.Rest {
				indents++
			}
		}
	}
	for _, a := range byKind {
		for _, b := range byKind {
			each(a+b, r.Intn(2))
			each("x"+a+b+"y", r.Intn(2))
		}
	}
	for range 6000 {
		each(someText(r, 30), api.WrapGreedy)
		each(someText(r, 9), api.WrapEven)
	}
	if hyphens < 1000 || indents < 1000 {
		t.Errorf("%d, %d", hyphens, indents)
	}
}

// TestP16_5Rows has the examples of the chapter, and rows of each kind.
func TestP16_5Rows(t *testing.T) {
	for _, y := range []struct {
		s    string
		w    api.Wrap
		want []api.Row
	}{
		{"", api.Wrap{Width: 5, First: 2}, nil},
		{"ab cd\nef", api.Wrap{Width: 5}, []api.Row{{To: 5, End: 6}, {From: 6, To: 8, End: 8}}},
		{"ab cd\nef", api.Wrap{Width: 4}, []api.Row{{To: 2, End: 3}, {From: 3, To: 5, End: 6}, {From: 6, To: 8, End: 8}}},
		{"ab\u4e00", api.Wrap{Width: 3}, []api.Row{{To: 2, End: 2}, {From: 2, To: 5, End: 5}}},
		{"  \n\r\n", api.Wrap{Width: 1}, []api.Row{{To: 0, End: 3}, {From: 3, To: 3, End: 5}}},
		{"ab cd ef\ngh ij", api.Wrap{Width: 5, First: 2, Rest: 3}, []api.Row{{To: 2, End: 3, Indent: 2}, {From: 3, To: 5, End: 6, Indent: 3}, {From: 6, To: 8, End: 9, Indent: 3}, {From: 9, To: 11, End: 12, Indent: 2}, {From: 12, To: 14, End: 14, Indent: 3}}},
		{"ab\u00adcd\u00adef\u00ad", api.Wrap{Width: 5}, []api.Row{{To: 8, End: 8, Hyphen: true}, {From: 8, To: 12, End: 12}}},
		{"ab\u00adcd\u00ad\nef", api.Wrap{Width: 2}, []api.Row{{To: 4, End: 4, Hyphen: true}, {From: 4, To: 8, End: 9}, {From: 9, To: 11, End: 11}}},
		{"a\u00ad b", api.Wrap{Width: 2}, []api.Row{{To: 3, End: 4, Hyphen: true}, {From: 4, To: 5, End: 5}}},
		{"a\u200b \u200b b", api.Wrap{Width: 1}, []api.Row{{To: 1, End: 9}, {From: 9, To: 10, End: 10}}},
		{"\xff \xff", api.Wrap{Width: 1}, []api.Row{{To: 1, End: 2}, {From: 2, To: 3, End: 3}}},
		{"aaa bb cc ddddd", api.Wrap{Width: 6}, []api.Row{{To: 6, End: 7}, {From: 7, To: 9, End: 10}, {From: 10, To: 15, End: 15}}},
		{"aaa bb cc ddddd", api.Wrap{Width: 6, How: api.WrapEven}, []api.Row{{To: 3, End: 4}, {From: 4, To: 9, End: 10}, {From: 10, To: 15, End: 15}}},
	} {
		if got, e := wrap.Rows(y.s, o8, y.w); e != api.OK || !slices.Equal(got, y.want) {
			t.Errorf("%q, %v: %v, %d; want %v", y.s, y.w, got, e, y.want)
		}
	}
}

// TestP16_5Errors is which error Rows and Fill have: that of the boxes ahead of that of the Wrap.
func TestP16_5Errors(t *testing.T) {
	many := strings.Repeat("\n", api.MaxBoxes+1)
	good, bad := api.Wrap{Width: 3}, api.Wrap{Width: 3, How: 2}
	for _, y := range []struct {
		s    string
		o    api.Cells
		w    api.Wrap
		want api.Errno
	}{
		{"a", api.Cells{}, good, api.ErrArg},
		{"a", api.Cells{}, bad, api.ErrArg},
		{"", api.Cells{}, bad, api.ErrArg},
		{many, api.Cells{}, bad, api.ErrArg},
		{many, o8, good, api.ErrMany},
		{many, o8, bad, api.ErrMany},
		{many[1:], o8, good, api.OK},
		{many[1:], o8, bad, api.ErrWrap},
		{"a", o8, bad, api.ErrWrap},
		{"", o8, bad, api.ErrWrap},
		{"", o8, api.Wrap{}, api.ErrWrap},
		{"a", o8, api.Wrap{Width: 1, First: -1}, api.ErrWrap},
		{"a", o8, api.Wrap{Width: 1, Rest: api.MaxCells + 1}, api.ErrWrap},
		{"a", o8, api.Wrap{Width: api.MaxCells + 1}, api.ErrWrap},
		{"", o8, good, api.OK},
	} {
		rows, e := wrap.Rows(y.s, y.o, y.w)
		text, e2 := wrap.Fill(y.s, y.o, y.w)
		if e != y.want || e2 != y.want {
			t.Errorf("%.9q, %v, %v: %d, %d; want %d", y.s, y.o, y.w, e, e2, y.want)
		}
		if e != api.OK && (len(rows) != 0 || text != "") {
			t.Errorf("%.9q, %v, %v: %v, %q beside an error", y.s, y.o, y.w, rows, text)
		}
	}
}

// TestP16_6Fill has indents, hyphens, rows of nothing.
func TestP16_6Fill(t *testing.T) {
	for _, y := range []struct {
		s    string
		w    api.Wrap
		want string
	}{
		{"", api.Wrap{Width: 1, First: 3}, ""},
		{"a\u00adb", api.Wrap{Width: 1}, "a\u00ad-\nb\n"},
		{"a\u00adb", api.Wrap{Width: 2}, "a\u00adb\n"},
		{"a\u00ad", api.Wrap{Width: 1}, "a\u00ad\n"},
		{"ab cd", api.Wrap{Width: 4, First: 1, Rest: 2}, " ab\n  cd\n"},
		{"ab cd\nef", api.Wrap{Width: 4, First: 2, Rest: 1}, "  ab\n cd\n  ef\n"},
		{"ab cd\nef", api.Wrap{Width: 5}, "ab cd\nef\n"},
		{"\n\n", api.Wrap{Width: 5, First: 1}, " \n \n"},
		{"a  \r\nb", api.Wrap{Width: 5}, "a\nb\n"},
		{"\xffa \xe2", api.Wrap{Width: 2}, "\xffa\n\xe2\n"},
		{"a b", api.Wrap{Width: 1, First: 9, Rest: 4}, "         a\n    b\n"},
		{"a b", api.Wrap{Width: 1, First: 4, Rest: 9}, "    a\n         b\n"},
		{"a\tb\t", api.Wrap{Width: 10}, "a\t\nb\t\n"},
		{"a\u2028b", api.Wrap{Width: 10}, "a\nb\n"},
	} {
		if got, e := wrap.Fill(y.s, o8, y.w); e != api.OK || got != y.want {
			t.Errorf("%q, %v: %q, %d; want %q", y.s, y.w, got, e, y.want)
		}
	}
	text, e := wrap.Fill("a b c", o8, api.Wrap{Width: 1, First: api.MaxCells, Rest: api.MaxCells - 1})
	less := strings.Repeat(" ", api.MaxCells-1)
	if e != api.OK || text != " "+less+"a\n"+less+"b\n"+less+"c\n" {
		t.Errorf("great indents: %d bytes, %d", len(text), e)
	}
}

// TestP16_4Clean is that the Clean form of a text has the same boxes, and as many rows.
func TestP16_4Clean(t *testing.T) {
	r := rand.New(rand.NewSource(164))
	for range 5000 {
		s := someText(r, 20)
		clean := utf.Clean(s)
		a, _ := wrap.Boxes(s, o8)
		b, _ := wrap.Boxes(clean, o8)
		if !slices.Equal(a, b) {
			t.Fatalf("%q: %v; %v", s, a, b)
		}
		w := someWrap(r, r.Intn(2))
		rows, _ := wrap.Rows(s, o8, w)
		others, _ := wrap.Rows(clean, o8, w)
		if len(rows) != len(others) {
			t.Fatalf("%q, %v: %v; %v", s, w, rows, others)
		}
	}
}

// TestP16_5New is that what is answered is new each time.
func TestP16_5New(t *testing.T) {
	const s = "ab cd\u00adef\n gh"
	w := api.Wrap{Width: 4, First: 1}
	boxes, _ := wrap.Boxes(s, o8)
	rows, _ := wrap.Rows(s, o8, w)
	asBoxes, asRows := slices.Clone(boxes), slices.Clone(rows)
	clear(boxes[:cap(boxes)])
	clear(rows[:cap(rows)])
	if got, _ := wrap.Boxes(s, o8); !slices.Equal(got, asBoxes) {
		t.Errorf("%v; want %v", got, asBoxes)
	}
	if got, _ := wrap.Rows(s, o8, w); !slices.Equal(got, asRows) {
		t.Errorf("%v; want %v", got, asRows)
	}
}
