package norm_test

import (
	"bytes"
	"math/rand"
	"slices"
	"strings"
	"testing"

	"kerf/api"
	"kerf/norm"
)

func made(t *testing.T, form int) *norm.Stream {
	t.Helper()
	x, e := norm.New(form)
	if x == nil || e != api.OK {
		t.Fatalf("New of %d: %d", form, e)
	}
	return x
}

// TestP18_6New has the forms, and what is none.
func TestP18_6New(t *testing.T) {
	if api.ErrNorm != 180 || !slices.Equal(forms, []int{0, 1, 2, 3}) {
		t.Error("numbers")
	}
	for _, form := range forms {
		x := made(t, form)
		if x.Held() != 0 || x.Close() != "" {
			t.Errorf("%d: not as new", form)
		}
	}
	for _, form := range none {
		if x, e := norm.New(form); x != nil || e != api.ErrNorm {
			t.Errorf("%d: %v, %d", form, x, e)
		}
	}
}

// TestP18_6Nil has a nil Stream.
func TestP18_6Nil(t *testing.T) {
	var x *norm.Stream
	for range 2 {
		if x.Write([]byte("ab")) != "" || x.Write(nil) != "" || x.Held() != 0 || x.Close() != "" {
			t.Error("nil")
		}
	}
}

// TestP18_6Hand has pieces by hand: what is told of each, and how much is held then.
func TestP18_6Hand(t *testing.T) {
	type step struct {
		p, told string
		held    int
	}
	for _, c := range []struct {
		form  int
		steps []step
		rest  string
	}{
		{api.FormC, []step{{"e", "", 1}, {"\u0301", "", 3}, {"x", "\u00e9", 1}}, "x"},
		{api.FormD, []step{{"\u00e9", "", 2}, {"", "", 2}, {"x", "e\u0301", 1}, {"yz", "xy", 1}}, "z"},
		{api.FormC, []step{{"\xcc", "", 1}, {"\x81", "", 2}, {"\xcc", "", 3}, {"a", "\u0301\xcc", 1}}, "a"},
		{api.FormC, []step{{"e\xcc", "", 2}, {"\x81\xcc", "", 4}, {"\xa3", "", 5}, {"e", "\u00e9\u0323", 1}}, "e"},
		{api.FormC, []step{{"\u1100", "", 3}, {"\u1161", "", 6}, {"\u11a8", "", 9}, {"\u11a8", "", 12}, {"\u1100", "\uac01\u11a8", 3}}, "\u1100"},
		{api.FormD, []step{{"\u1100", "", 3}, {"\u1161", "\u1100", 3}, {"\u11a8", "\u1161", 3}}, "\u11a8"},
		{api.FormD, []step{{"a\xe2", "", 2}, {"\x82", "", 3}, {"A", "a\xe2\x82", 1}}, "A"},
		{api.FormD, []step{{"a\xe2", "", 2}, {"\x82", "", 3}, {"\xac", "a", 3}}, "\u20ac"},
		{api.FormC, []step{{"a\xe2\x82", "", 3}}, "a\xe2\x82"},
		{api.FormC, []step{{"\xff", "", 1}, {"\u0301", "", 3}, {"\xff", "\xff\u0301", 1}, {"\xff", "\xff", 1}}, "\xff"},
		{api.FormKC, []step{{"\uff76", "", 3}, {"\uff9e", "", 6}, {"\ufb03", "\u30ac", 3}}, "ffi"},
		{api.FormC, []step{{"\uff76", "", 3}, {"\uff9e", "\uff76", 3}, {"\ufb03", "\uff9e", 3}}, "\ufb03"},
		{api.FormKD, []step{{"abc", "ab", 1}, {"", "", 1}, {"d", "c", 1}}, "d"},
		{api.FormC, []step{{"\u0301\u0323", "", 4}, {"\u0344", "", 6}, {"\u1161", "", 9}, {"a", "\u0323\u0301\u0308\u0301\u1161", 1}}, "a"},
		{api.FormC, []step{{"", "", 0}}, ""},
	} {
		x := made(t, c.form)
		for range 2 { // and again: behind Close it is as new
			for i, s := range c.steps {
				if got := x.Write([]byte(s.p)); got != s.told || x.Held() != s.held {
					t.Errorf("%v: %d: %+q, %d held", c, i, got, x.Held())
				}
			}
			if got := x.Write(nil); got != "" || x.Held() != c.steps[len(c.steps)-1].held {
				t.Errorf("%v: nil: %+q", c, got)
			}
			if got := x.Close(); got != c.rest || x.Held() != 0 {
				t.Errorf("%v: Close %+q, %d held", c, got, x.Held())
			}
		}
		if x.Close() != "" {
			t.Errorf("%v: Close again", c)
		}
	}
}

// TestP18_6Some holds streams, piece by piece, against the plain one.
func TestP18_6Some(t *testing.T) {
	b := bookOf(t)
	r := rand.New(rand.NewSource(186))
	for _, form := range forms {
		x, y := made(t, form), &plainStream{book: b, form: form}
		for range 250 {
			s := someText(r, 10)
			for _, pieces := range [][]string{by(s, 1), by(s, 2), someCuts(r, s)} {
				for _, p := range pieces {
					got, want := x.Write([]byte(p)), y.write(p)
					if got != want || x.Held() != y.held() {
						t.Fatalf("%+q by %d: %+q: %+q, %d held; want %+q, %d", pieces, form, p, got, x.Held(), want, y.held())
					}
				}
				if got, want := x.Close(), y.close(); got != want || x.Held() != 0 {
					t.Fatalf("%+q by %d: Close %+q; want %+q", pieces, form, got, want)
				}
			}
		}
	}
}

// TestP18_6Two has two streams that are written to in turn: they share nothing.
func TestP18_6Two(t *testing.T) {
	x, y := made(t, api.FormC), made(t, api.FormD)
	x.Write([]byte("e"))
	y.Write([]byte("\u00e9"))
	x.Write([]byte("\u0301"))
	if y.Held() != 2 || y.Close() != "e\u0301" || x.Held() != 3 || x.Close() != "\u00e9" {
		t.Error("two streams")
	}
}

// TestP18_6Kept is that what is handed in is neither changed nor kept, nor its spare room.
func TestP18_6Kept(t *testing.T) {
	x := made(t, api.FormC)
	room := []byte("ae\xcc\x81\u0323\xcc|spare room")
	was := bytes.Clone(room)
	p := room[:bytes.IndexByte(room, '|')]
	x.Write(p)
	if !bytes.Equal(room, was) {
		t.Errorf("changed: %q", room)
	}
	clear(room)
	x.Write([]byte("\x81"))
	if got := x.Close(); got != "\u00e9\u0323\u0301" {
		t.Errorf("%+q", got)
	}
}

// TestP18_6Long has a long run that is held, a byte at a time, and a long text in one piece.
func TestP18_6Long(t *testing.T) {
	const many = 20000
	s := "a" + strings.Repeat("\u0301", many)
	x := made(t, api.FormD)
	for i := 0; i < len(s); i += 2 {
		if got := x.Write([]byte(s[i:min(i+2, len(s))])); got != "" {
			t.Fatalf("%d: %+q", i, got)
		}
	}
	if x.Held() != len(s) || x.Write([]byte("b")) != s || x.Held() != 1 || x.Close() != "b" {
		t.Error("held")
	}
	plain := strings.Repeat("plain text, ", many)
	if x.Write([]byte(plain)) != plain[:len(plain)-1] || x.Held() != 1 || x.Close() != " " {
		t.Error("one piece")
	}
}
