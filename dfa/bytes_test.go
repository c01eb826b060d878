package dfa_test

import (
	"bytes"
	"math/rand"
	"slices"
	"testing"

	"kerf/api"
	"kerf/dfa"
)

func put(t *testing.T, d api.Dfa) []byte {
	t.Helper()
	b, e := dfa.Put(d)
	if e != api.OK {
		t.Fatal(d, e)
	}
	return b
}

func TestP7_9Put(t *testing.T) {
	for _, c := range []struct {
		d    api.Dfa
		want string
	}{
		{automaton([]int{1}, row(0, -1)), "\x02\x01\x01\x01\x00"},
		{automaton([]int{0, 1}, row(1), row(-1)), "\x01\x02\x00\x02\x01\x00"},
		{automaton([]int{0, 1, 0}, row(1, 2, -1), row(0, 0, 0), row(2, 1, 0)), "\x03\x03\x00\x02\x03\x00\x01\x01\x01\x01\x00\x03\x02\x01"},
	} {
		if b := put(t, c.d); string(b) != c.want {
			t.Errorf("%v: %x", c.d, b)
		}
	}
	// The numbers of one byte end at 127.
	for states, head := range map[int]string{127: "\x01\x7f", 128: "\x01\x80\x01", 129: "\x01\x81\x01", 1024: "\x01\x80\x08"} {
		b := put(t, chain(states, 1))
		if string(b[:len(head)]) != head || !bytes.Equal(b, plainPut(chain(states, 1))) {
			t.Errorf("%d: %x", states, b[:4])
		}
	}
	if b := put(t, chain(2, 64)); b[0] != 64 || len(b) != 2+2*65 {
		t.Errorf("%x", b)
	}
	if b, e := dfa.Put(api.Dfa{}); b != nil || e != api.ErrDfa {
		t.Error(b, e)
	}
}

func TestP7_9ThereAndBack(t *testing.T) {
	r := rand.New(rand.NewSource(79))
	for i := range 800 {
		d := someDfa(r, 1+r.Intn(4), 5)
		if i%20 == 0 {
			d = someDfa(r, 1+r.Intn(64), 1024)
		}
		b := put(t, d)
		if !bytes.Equal(b, plainPut(d)) {
			t.Fatal(d, b)
		}
		got, e := dfa.Get(b)
		if e != api.OK || text(got) != text(d) {
			t.Fatal(d, got, e)
		}
	}
	for _, d := range []api.Dfa{everything(1024, 64), chain(1024, 64), chain(1024, 1)} {
		if got, e := dfa.Get(put(t, d)); e != api.OK || text(got) != text(d) {
			t.Error(len(d.Next), d.Classes, e)
		}
	}
}

func TestP7_9Get(t *testing.T) {
	// This one is not in the least form: its bytes are its own.
	if d, e := dfa.Get([]byte("\x01\x02\x00\x01\x01\x02")); e != api.OK || text(d) != "{1 [[0] [1]] [0 1]}" {
		t.Error(d, e)
	}
	for name, b := range map[string]string{
		"nothing":                         "",
		"classes alone":                   "\x02",
		"no states":                       "\x02\x00",
		"no classes, no states":           "\x00\x00",
		"no classes":                      "\x00\x01\x01",
		"cut short":                       "\x02\x01\x01\x01",
		"cut within a number":             "\x02\x01\x01\x01\x80",
		"more behind":                     "\x02\x01\x01\x01\x00\x00",
		"classes longer than need be":     "\x82\x00\x01\x01\x01\x00",
		"states longer than need be":      "\x02\x81\x00\x01\x01\x00",
		"Take longer than need be":        "\x02\x01\x81\x00\x01\x00",
		"Next longer than need be":        "\x02\x01\x01\x81\x00\x00",
		"nowhere longer than need be":     "\x02\x01\x01\x01\x80\x00",
		"longer by two":                   "\x02\x01\x01\x81\x80\x00\x00",
		"Take 2":                          "\x02\x01\x02\x01\x00",
		"Take 128":                        "\x02\x01\x80\x01\x01\x00",
		"Next too great":                  "\x02\x01\x01\x02\x00",
		"Next 128":                        "\x02\x01\x01\x80\x01\x00",
		"Next of three bytes":             "\x02\x01\x01\x81\x80\x01\x00",
		"Next of eleven bytes":            "\x02\x01\x01\x81\x80\x80\x80\x80\x80\x80\x80\x80\x80\x01\x00",
		"bytes without end":               "\x02\x01\x01" + string(bytes.Repeat([]byte{0x80}, 100)),
		"classes of eleven bytes":         "\x82\x80\x80\x80\x80\x80\x80\x80\x80\x80\x02\x01\x01\x01\x00",
		"states of eleven bytes":          "\x01\x81\x80\x80\x80\x80\x80\x80\x80\x80\x80\x02\x01\x01",
		"a number of 2^14 and one":        "\x01\x81\x80\x01\x01\x01",
		"classes 65":                      "\x41\x01\x01" + string(make([]byte, 65)),
		"classes 129":                     "\x81\x01\x01\x01" + string(make([]byte, 129)),
		"many states, few bytes":          "\x40\x80\x08\x01",
		"the greatest number of two":      "\xff\x7f\xff\x7f",
		"a state's Take behind the bytes": "\x01\x02\x00\x01",
	} {
		if d, e := dfa.Get([]byte(b)); e != api.ErrBytes || !zero(d) {
			t.Error(name, d, e)
		}
	}
	if d, e := dfa.Get(append([]byte("\x40\x01\x01"), make([]byte, 64)...)); e != api.OK || d.Classes != 64 {
		t.Error(d, e)
	}
	states := func(head string, n int) []byte { return append([]byte(head), make([]byte, 2*n)...) }
	if d, e := dfa.Get(states("\x01\x80\x08", 1024)); e != api.OK || len(d.Next) != 1024 {
		t.Error(len(d.Next), e)
	}
	if d, e := dfa.Get(states("\x01\x81\x08", 1025)); e != api.ErrBytes || !zero(d) {
		t.Error(len(d.Next), e)
	}
	if d, e := dfa.Get(nil); e != api.ErrBytes || !zero(d) {
		t.Error(d, e)
	}
}

func TestP7_9AgainstPlain(t *testing.T) {
	r := rand.New(rand.NewSource(799))
	ok, bad := 0, 0
	for range 60000 {
		d := someDfa(r, 1+r.Intn(3), 3)
		b := plainPut(d)
		for range r.Intn(3) {
			at := r.Intn(len(b))
			switch r.Intn(4) {
			case 0:
				b[at] = byte(r.Intn(4) + r.Intn(2)*r.Intn(2)*128)
			case 1:
				b = slices.Insert(b, at, byte(r.Intn(3)+r.Intn(2)*128))
			case 2:
				b = append(b[:at:at], b[min(len(b), at+1):]...)
			case 3:
				b = append(b[:at:at], byte(r.Intn(256)))
			}
			if len(b) == 0 {
				break
			}
		}
		was := slices.Clone(b)
		got, e := dfa.Get(b)
		want, good := plainGet(b)
		if good != (e == api.OK) || good && text(got) != text(want) || !good && (e != api.ErrBytes || !zero(got)) {
			t.Fatalf("%x: %v %d, not %v", b, got, e, want)
		}
		if !bytes.Equal(was, b) {
			t.Fatal("the bytes have changed")
		}
		if good {
			ok++
		} else {
			bad++
		}
	}
	if ok < 5000 || bad < 5000 {
		t.Error(ok, bad)
	}
}

func TestP7_9NewMemory(t *testing.T) {
	d := automaton([]int{0, 1}, row(1, -1), row(-1, 1))
	b := put(t, d)
	was := string(b)
	got, _ := dfa.Get(b)
	for i := range b[:cap(b)] {
		b[:cap(b)][i] = 0xff
	}
	if text(got) != text(d) || string(put(t, d)) != was {
		t.Error(got)
	}
	got.Next[0][0] = 0
	if text(d) != "{2 [[1 -1] [-1 1]] [0 1]}" {
		t.Error(d)
	}
}
