package cursor_test

import (
	"math"
	"math/rand"
	"slices"
	"testing"

	"kerf/api"
	"kerf/cursor"
	"kerf/grapheme"
	"kerf/utf"
	"kerf/word"
)

// someCursor is one in s, or beside it.
func someCursor(r *rand.Rand, s string) api.Cursor {
	return api.Cursor{At: r.Intn(len(s)+5) - 2, Goal: r.Intn(12) - 2}
}

// stands is whether at is 0, the length of s, or a bound of letters.
func stands(s string, at int) bool {
	return at == 0 || at == len(s) || grapheme.Is(s, at)
}

// TestP21_7 is that no cursor comes to stand within a letter, whatever is done.
func TestP21_7(t *testing.T) {
	r := rand.New(rand.NewSource(217))
	for i := range 60000 {
		s := someText(r, 12)
		c, n, o := someCursor(r, s), r.Intn(9)-4, options[r.Intn(len(options))]
		if i%9 == 0 {
			o = refused[r.Intn(len(refused))]
		}
		m := api.Motion{Kind: every[r.Intn(len(every))], N: n}
		u := someText(r, 3)
		if at := cursor.Step(s, c.At, m.Kind, n); !stands(s, at) {
			t.Fatalf("%q: Step from %v by %v: %d", s, c, m, at)
		}
		if at := cursor.Row(s, c, n, o).At; !stands(s, at) {
			t.Fatalf("%q: Row from %v by %d, %v: %d", s, c, n, o, at)
		}
		if at := cursor.Do(s, c, m, o).At; !stands(s, at) {
			t.Fatalf("%q: Do from %v by %v, %v: %d", s, c, m, o, at)
		}
		if left, c := cursor.Erase(s, c, m, o); !stands(left, c.At) {
			t.Fatalf("%q: Erase by %v, %v: %q, %v", s, m, o, left, c)
		}
		if made, c := cursor.Put(s, c, u); !stands(made, c.At) {
			t.Fatalf("%q: Put %q: %q, %v", s, u, made, c)
		}
	}
}

// TestP21_7Chain puts and erases in one text, again and again.
func TestP21_7Chain(t *testing.T) {
	r := rand.New(rand.NewSource(2171))
	s, c := "", api.Cursor{Goal: -1}
	for range 30000 {
		if len(s) < 40 {
			s, c = cursor.Put(s, c, parts[r.Intn(len(parts))])
		} else {
			s, c = cursor.Erase(s, c, api.Motion{Kind: byStep[r.Intn(len(byStep))], N: r.Intn(5) - 2}, o8)
		}
		if !stands(s, c.At) || c.Goal != -1 {
			t.Fatalf("%q: %v", s, c)
		}
		c = cursor.Do(s, c, api.Motion{Kind: every[r.Intn(len(every))], N: r.Intn(7) - 3}, o8)
	}
}

// TestP21_8Back is n steps by letters on, and n back.
func TestP21_8Back(t *testing.T) {
	r := rand.New(rand.NewSource(218))
	there := 0
	for range 20000 {
		s := someText(r, 14)
		at, n := someCursor(r, s).At, r.Intn(9)
		start := cursor.Snap(s, at)
		if grapheme.Count(s[start:]) < n {
			continue
		}
		there++
		on := cursor.Step(s, at, api.ToLetter, n)
		if back := cursor.Step(s, on, api.ToLetter, -n); back != start || grapheme.Count(s[start:on]) != n {
			t.Fatalf("%q: %d on from %d to %d, and back to %d", s, n, start, on, back)
		}
	}
	if there < 5000 {
		t.Error(there)
	}
}

// TestP21_8 is that steps go one way, and are as many as were made one behind the other.
func TestP21_8(t *testing.T) {
	r := rand.New(rand.NewSource(2181))
	for range 20000 {
		s := someText(r, 14)
		at := someCursor(r, s).At
		start := cursor.Snap(s, at)
		m, n := r.Intn(6), r.Intn(6)
		if r.Intn(8) == 0 {
			m = math.MaxInt - n
		}
		for _, kind := range every {
			on, back := cursor.Step(s, at, kind, m), cursor.Step(s, at, kind, -m)
			if on < start || back > start {
				t.Fatalf("%q of kind %d: from %d on to %d, back to %d", s, kind, start, on, back)
			}
			if got, want := cursor.Step(s, on, kind, n), cursor.Step(s, at, kind, m+n); got != want {
				t.Fatalf("%q of kind %d: from %d by %d and %d to %d, at once to %d", s, kind, start, m, n, got, want)
			}
			if got, want := cursor.Step(s, back, kind, -n), cursor.Step(s, at, kind, -m-n); got != want {
				t.Fatalf("%q of kind %d: from %d back by %d and %d to %d, at once to %d", s, kind, start, m, n, got, want)
			}
		}
		if got := cursor.Step(s, cursor.Step(s, at, api.ToWord, -1), api.ToWord, math.MinInt); got != cursor.Step(s, at, api.ToWord, math.MinInt) {
			t.Fatalf("%q: all words back from %d: %d", s, at, got)
		}
	}
}

// TestP21_9 is that the column is kept from line to line.
func TestP21_9(t *testing.T) {
	r := rand.New(rand.NewSource(219))
	of := slices.Concat(options, refused[:3])
	lines := []string{"abc", "\n", "\r\n", "\u4e00\u4e00", "\t", "e\u0301", "x", "\u2028", "\xff"}
	for range 30000 {
		s := ""
		for range r.Intn(14) {
			s += lines[r.Intn(len(lines))]
		}
		c, o := someCursor(r, s), of[r.Intn(len(of))]
		c.Goal = r.Intn(12)
		m, n := r.Intn(4), r.Intn(4)
		if r.Intn(8) == 0 {
			n = math.MaxInt - m
		}
		for _, way := range []int{1, -1} {
			by := cursor.Row(s, cursor.Row(s, c, way*m, o), way*n, o)
			if want := cursor.Row(s, c, way*(m+n), o); by != want || by.Goal != c.Goal {
				t.Fatalf("%q, %v: from %v by %d and %d to %v, at once to %v", s, o, c, way*m, way*n, by, want)
			}
		}
	}
}

// TestP10 is that a cursor that goes on by a word from ahead of it stops where it ends, or where the last letter ends ahead of that.
func TestP10(t *testing.T) {
	r := rand.New(rand.NewSource(10))
	whole, parted := 0, 0
	for range 20000 {
		s := someText(r, 12)
		last := 0 // where the word ahead ends
		for from, w := range word.Words(s) {
			to := from + len(w)
			for at := last; at <= from; at++ {
				start := cursor.Snap(s, at)
				got := cursor.Step(s, at, api.ToWord, 1)
				switch end := cursor.Snap(s, to); {
				case start != at:
				case end == to && got != to, end > start && got != end:
					t.Fatalf("%q: from %d by the word from %d to %d: %d", s, at, from, to, got)
				case end == to:
					whole++
				case end > start:
					parted++
				}
			}
			last = to
		}
	}
	if whole < 5000 || parted < 100 {
		t.Error(whole, parted)
	}
}

// TestP6 is that the Clean form of a text has as many steps of each kind.
func TestP6(t *testing.T) {
	r := rand.New(rand.NewSource(6))
	for range 10000 {
		s := someText(r, 12)
		clean := utf.Clean(s)
		for _, kind := range byStep {
			n := r.Intn(6)
			got, want := cursor.Step(clean, 0, kind, n), cursor.Step(s, 0, kind, n)
			if got != len(utf.Clean(s[:want])) {
				t.Fatalf("%q of kind %d by %d: %d; the clean form: %d", s, kind, n, want, got)
			}
		}
	}
}
