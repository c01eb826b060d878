package wrap_test

import (
	"math/rand"
	"slices"
	"strings"
	"testing"

	"kerf/api"
	"kerf/wrap"
)

// TestP16_7 is that no way has fewer lines than the greedy one.
func TestP16_7(t *testing.T) {
	r := rand.New(rand.NewSource(167))
	for range 4000 {
		x := someSheet(r, 9)
		got, e := wrap.Lines(x.l, x.w)
		if e != api.OK {
			t.Fatalf("%v, %v: %d", x.l, x.w, e)
		}
		for _, ends := range x.ways() {
			if len(ends) < len(got) {
				t.Fatalf("%v, %v: %v; %v has fewer lines", x.l, x.w, got, ends)
			}
		}
	}
}

// TestP16_8 is that no way costs less than the even one, by Cost itself.
func TestP16_8(t *testing.T) {
	r := rand.New(rand.NewSource(168))
	for range 3000 {
		x := someSheet(r, 9)
		got, _ := wrap.Lines(x.l, by(api.WrapEven, x.w))
		least, ok := wrap.Cost(x.l, x.w, got)
		if !ok {
			t.Fatalf("%v, %v: %v costs nothing", x.l, x.w, got)
		}
		for _, ends := range x.ways() {
			if cost, ok := wrap.Cost(x.l, x.w, ends); !ok || cost < least {
				t.Fatalf("%v, %v: %v costs %d; %v costs %d, %v", x.l, x.w, got, least, ends, cost, ok)
			}
		}
	}
}

// TestP16_9Lines is that lines of both ways fit, and have a box each.
func TestP16_9Lines(t *testing.T) {
	r := rand.New(rand.NewSource(169))
	for range 3000 {
		x := someSheet(r, 60)
		for how := range 2 {
			ends, e := wrap.Lines(x.l, by(how, x.w))
			if e != api.OK || !x.isList(ends) {
				t.Fatalf("%v, %v, %d: %v, %d", x.l, x.w, how, ends, e)
			}
		}
	}
}

// TestP16_9Rows is that rows are the text, and what is dropped of them.
func TestP16_9Rows(t *testing.T) {
	x := plain(t)
	r := rand.New(rand.NewSource(1692))
	dropped := map[string]int{}
	for range 10000 {
		s, w := someText(r, 40), someWrap(r, r.Intn(2))
		rows, e := wrap.Rows(s, o8, w)
		if e != api.OK {
			t.Fatalf("%q, %v: %d", s, w, e)
		}
		var whole strings.Builder
		end := 0
		for _, row := range rows {
			if row.From != end || row.To < row.From || row.To > row.End || row.End <= row.From {
				t.Fatalf("%q, %v: %v", s, w, rows)
			}
			whole.WriteString(s[row.From:row.End])
			end = row.End
			for _, class := range x.b.Db().Of(s[row.To:row.End]) {
				dropped[x.names[class]]++
			}
		}
		if whole.String() != s {
			t.Fatalf("%q, %v: %v", s, w, rows)
		}
	}
	for _, name := range []string{"Sp", "Zw", "Bk", "Cr", "Lf"} {
		if dropped[name] < 500 {
			t.Errorf("%s: %d", name, dropped[name])
		}
		delete(dropped, name)
	}
	if len(dropped) > 0 {
		t.Errorf("%v", dropped)
	}
}

// paragraphs are the numbers of the last boxes of those, and the least Width at which each, as one line, is of no more size than its room.
func (x sheet) paragraphs() ([]int, int) {
	var ends []int
	least, from := 1, 0
	for j := range x.l {
		if x.isLast(j) {
			ends = append(ends, j)
			least = max(least, x.size(from, j)+x.w.First)
			from = j + 1
		}
	}
	return ends, least
}

// TestP16_10One is that paragraphs that fit into one line have one, and cost nothing; and that with one cell less they do not.
func TestP16_10One(t *testing.T) {
	r := rand.New(rand.NewSource(1610))
	less := 0
	for range 3000 {
		x := someSheet(r, 20)
		want, width := x.paragraphs()
		for how := range 2 {
			for _, x.w.Width = range []int{width, width + 1, width + 50, api.MaxCells} {
				w := by(how, x.w)
				ends, e := wrap.Lines(x.l, w)
				if e != api.OK || !slices.Equal(ends, want) {
					t.Fatalf("%v, %v: %v, %d; want %v", x.l, w, ends, e, want)
				}
				if cost, ok := wrap.Cost(x.l, w, ends); cost != 0 || !ok {
					t.Fatalf("%v, %v: %d, %v", x.l, w, cost, ok)
				}
			}
			x.w.Width = width - 1
			if ends, e := wrap.Lines(x.l, by(how, x.w)); e == api.OK && !slices.Equal(ends, want) {
				less++
			}
		}
	}
	if less < 1000 {
		t.Errorf("%d", less)
	}
}

// TestP16_10Wider is that a greater Width has no more lines, of boxes and of texts.
func TestP16_10Wider(t *testing.T) {
	r := rand.New(rand.NewSource(16102))
	for range 1000 {
		x, s := someSheet(r, 40), someText(r, 40)
		lines, rows := len(x.l), api.MaxBoxes
		for width := 1; width < 60; width++ {
			x.w.Width = width
			ends, e := wrap.Lines(x.l, x.w)
			if e != api.OK || len(ends) > lines {
				t.Fatalf("%v, %v: %d lines, %d; %d with less Width", x.l, x.w, len(ends), e, lines)
			}
			l, e := wrap.Rows(s, o8, x.w)
			if e != api.OK || len(l) > rows {
				t.Fatalf("%q, %v: %d rows, %d; %d with less Width", s, x.w, len(l), e, rows)
			}
			lines, rows = len(ends), len(l)
		}
	}
}
