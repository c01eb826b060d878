package stream_test

import (
	"iter"
	"math/rand"
	"slices"
	"strings"
	"sync"
	"testing"

	"kerf/api"
	"kerf/breaker"
	"kerf/stream"
)

// source gives pieces, and counts what becomes of them.
type source struct {
	pieces []string
	begun  int // how often it was gone over
	given  int // how many pieces it has given, in all
	left   int // how often it was left ahead of its end
	ended  int // how often it came to its end
}

func (s *source) all() iter.Seq[string] {
	return func(yield func(string) bool) {
		s.begun++
		for _, p := range s.pieces {
			s.given++
			if !yield(p) {
				s.left++
				return
			}
		}
		s.ended++
	}
}

func parts(seq iter.Seq[string]) []string {
	var l []string
	for s := range seq {
		l = append(l, s)
	}
	return l
}

// TestP10_5Example is that of the chapter, with the piece that was read last when a part is told.
func TestP10_5Example(t *testing.T) {
	d := db(t, linesProps)
	src := &source{pieces: []string{"ab", "\r", "\nc"}}
	var l []string
	var given []int
	for s := range stream.Segments(d, read(t, d, linesRules), src.all()) {
		l, given = append(l, s), append(given, src.given)
	}
	if !slices.Equal(l, []string{"a", "b", "\r\n", "c"}) || !slices.Equal(given, []int{1, 2, 3, 3}) {
		t.Errorf("%q, %v", l, given)
	}
	if src.begun != 1 || src.ended != 1 || src.left != 0 {
		t.Errorf("%v", src)
	}
}

// TestP10_5Ahead holds, part by part, how many pieces were read against what a stream has told by then.
func TestP10_5Ahead(t *testing.T) {
	r := rand.New(rand.NewSource(105))
	d := db(t, fewProps)
	for range 500 {
		rs, pieces := someRules(r, 5), someCuts(r, someText(r, 12))
		var want []int // of each part: how many pieces have come when its end is told
		x := made(t, d, rs)
		for i, p := range pieces {
			for _, at := range x.Write([]byte(p)) {
				if at > 0 {
					want = append(want, i+1)
				}
			}
		}
		for _, at := range x.End() {
			if at > 0 {
				want = append(want, len(pieces))
			}
		}
		src := &source{pieces: pieces}
		var got []int
		for range stream.Segments(d, rs, src.all()) {
			got = append(got, src.given)
		}
		if !slices.Equal(got, want) || src.given != len(pieces) {
			t.Fatalf("%v, %q: %v; want %v", rs, pieces, got, want)
		}
	}
}

// TestP10_5Left leaves it at every part, and goes over it again.
func TestP10_5Left(t *testing.T) {
	d := db(t, linesProps)
	src := &source{pieces: []string{"a", "b\u0301\xcc", "", "\x81", "\r", "\n\xff", "c", "\xe2\x82"}}
	want := []string{"a", "b\u0301\u0301", "\r\n", "\xff", "c", "\xe2", "\x82"}
	seq := stream.Segments(d, read(t, d, linesRules), src.all())
	if src.begun != 0 {
		t.Errorf("gone over ahead of time")
	}
	for stop := range want {
		before := *src
		var l []string
		for s := range seq {
			if l = append(l, s); len(l) == stop+1 {
				break
			}
		}
		if !slices.Equal(l, want[:stop+1]) {
			t.Errorf("left at %d: %q", stop, l)
		}
		if src.begun != before.begun+1 {
			t.Errorf("left at %d: gone over %d times", stop, src.begun-before.begun)
		}
		// The last three are told by the end, behind all pieces: what ends them was held.
		left := 1
		if stop >= len(want)-3 {
			left = 0
		}
		if src.left != before.left+left || src.ended != before.ended+1-left {
			t.Errorf("left at %d: src left %d times, ended %d times", stop, src.left-before.left, src.ended-before.ended)
		}
		told := 0
		seq(func(string) bool { told++; return told <= stop })
		if told != stop+1 {
			t.Errorf("left at %d: %d told", stop, told)
		}
		if got := parts(seq); !slices.Equal(got, want) {
			t.Errorf("gone over again: %q", got)
		}
	}
	// Of several parts of one piece those behind the one where it is left are not told, nor is a piece read.
	src = &source{pieces: []string{"abcd", "ef"}}
	for range stream.Segments(d, read(t, d, linesRules), src.all()) {
		break
	}
	if src.given != 1 || src.left != 1 || src.ended != 0 {
		t.Errorf("left at once: %v", src)
	}
}

// TestP10_5Nested has it gone over within itself, and by turns.
func TestP10_5Nested(t *testing.T) {
	d := db(t, linesProps)
	src := &source{pieces: []string{"a", "b\xcc", "\x81", "\r", "\nc"}}
	want := []string{"a", "b\u0301", "\r\n", "c"}
	seq := stream.Segments(d, read(t, d, linesRules), src.all())
	i := 0
	for s := range seq {
		if s != want[i] {
			t.Errorf("part %d: %q", i, s)
		}
		i++
		if got := parts(seq); !slices.Equal(got, want) {
			t.Errorf("within: %q", got)
		}
		for s := range seq {
			if s != want[0] {
				t.Errorf("within, left: %q", s)
			}
			break
		}
	}
	if i != len(want) {
		t.Errorf("%d parts", i)
	}
	one, stop := iter.Pull(seq)
	defer stop()
	two, stop := iter.Pull(seq)
	defer stop()
	for i := range want {
		if s, ok := one(); !ok || s != want[i] {
			t.Errorf("one, part %d: %q", i, s)
		}
		if s, ok := two(); !ok || s != want[i] {
			t.Errorf("two, part %d: %q", i, s)
		}
	}
}

// TestP10_5Again has a source that gives other pieces each time it is gone over.
func TestP10_5Again(t *testing.T) {
	d := db(t, linesProps)
	src := &source{pieces: []string{"a"}}
	seq := stream.Segments(d, read(t, d, linesRules), src.all())
	for _, l := range [][]string{{"a"}, {"b\u0301", "c"}, {}, {"x", "\r\n", "y"}} {
		src.pieces = l
		if got := parts(seq); !slices.Equal(got, l) {
			t.Errorf("%q; want %q", got, l)
		}
	}
}

func TestP10_5Nothing(t *testing.T) {
	d := db(t, fewProps)
	good := read(t, d, "A ~ B")
	src := &source{pieces: []string{"a", "b"}}
	for name, seq := range map[string]iter.Seq[string]{
		"no source":             stream.Segments(d, good, nil),
		"no database":           stream.Segments(nil, good, src.all()),
		"neither":               stream.Segments(nil, good, nil),
		"a rule that is none":   stream.Segments(d, with(api.Rule{Left: api.Pattern{Op: 9}}), src.all()),
		"a class that is none":  stream.Segments(d, with(api.Rule{}, api.Rule{Right: set(5)}), src.all()),
		"too many rules":        stream.Segments(d, with(make([]api.Rule, 65)...), src.all()),
		"no pieces":             stream.Segments(d, good, slices.Values([]string{})),
		"pieces that are empty": stream.Segments(d, good, slices.Values([]string{"", "", ""})),
	} {
		if seq == nil {
			t.Fatalf("%s: nil to go over", name)
		}
		for range 2 {
			if l := parts(seq); len(l) != 0 {
				t.Errorf("%s: %q", name, l)
			}
		}
	}
	if src.begun != 0 {
		t.Errorf("gone over %d times", src.begun)
	}
}

// TestP10_5Kept changes the rules behind the call.
func TestP10_5Kept(t *testing.T) {
	d := db(t, fewProps)
	const text = "A ~ B\nB / (B | C)+ A\n^ A B B ~ . $\nrest ~"
	pieces := []string{"ab", "b\u0301a", "bx", "\xff"}
	want := parts(stream.Segments(d, read(t, d, text), slices.Values(pieces)))
	if len(want) < 2 {
		t.Fatalf("%q", want)
	}
	rs := read(t, d, text)
	seq := stream.Segments(d, rs, slices.Values(pieces))
	spoil(rs)
	if got := parts(seq); !slices.Equal(got, want) {
		t.Errorf("%q; want %q", got, want)
	}
	rs = read(t, d, text)
	seq = stream.Segments(d, rs, slices.Values(pieces))
	var got []string
	for s := range seq {
		got = append(got, s)
		rs.Rest = true
		spoil(rs)
	}
	if !slices.Equal(got, want) || !slices.Equal(parts(seq), want) {
		t.Errorf("%q; want %q", got, want)
	}
	// What became good behind the call has no part either.
	rs = with(api.Rule{Left: set(9)})
	seq = stream.Segments(d, rs, slices.Values(pieces))
	rs.Rules[0].Left.Classes[0] = 1
	if got := parts(seq); len(got) != 0 {
		t.Errorf("%q", got)
	}
}

// TestP10_5AtOnce has several goroutines that go over one, each by itself.
func TestP10_5AtOnce(t *testing.T) {
	d := db(t, linesProps)
	seq := stream.Segments(d, read(t, d, linesRules), slices.Values([]string{"a\xcc", "\x81b\r", "\nc\xff"}))
	var group sync.WaitGroup
	for range 8 {
		group.Go(func() {
			for range 50 {
				if got := parts(seq); !slices.Equal(got, []string{"a\u0301", "b", "\r\n", "c", "\xff"}) {
					t.Errorf("%q", got)
				}
			}
		})
	}
	group.Wait()
}

// TestP10_9Parts puts parts together again: they are the text's pieces by chapter 9.
func TestP10_9Parts(t *testing.T) {
	r := rand.New(rand.NewSource(109))
	d := db(t, fewProps)
	for range 600 {
		rs, s := someRules(r, 6), someText(r, 20)
		b, e, _ := breaker.New(d, rs)
		if e != api.OK {
			t.Fatal(e)
		}
		var want []string
		for from, to := range b.Each(s) {
			want = append(want, s[from:to])
		}
		for _, pieces := range [][]string{{s}, by(s, 1), by(s, 2), someCuts(r, s)} {
			got := parts(stream.Segments(d, rs, slices.Values(pieces)))
			if strings.Join(got, "") != s || slices.Contains(got, "") || !slices.Equal(got, want) {
				t.Fatalf("%v, %q: %q; want %q", rs, pieces, got, want)
			}
		}
	}
}

// TestP10_9Long has a part of many pieces.
func TestP10_9Long(t *testing.T) {
	d := db(t, fewProps)
	const long = 300000
	seq := stream.Segments(d, read(t, d, "/ A\nrest ~"), func(yield func(string) bool) {
		for i := range long {
			if !yield([]string{"x", "\xe4", "\xb8", "\x80"}[i%4]) {
				return
			}
		}
		yield("a")
	})
	if l := parts(seq); len(l) != 2 || len(l[0]) != long || l[1] != "a" {
		t.Errorf("%d parts", len(l))
	}
}
