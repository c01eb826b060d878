package table

import (
	"bytes"

	"kerf/api"
)

const (
	more    = 0x80 // is set in each byte of a number but the last
	longest = 3    // bytes of a number: with more it is greater than any of a table's
)

// Bytes: P3.7.
func (t *Table) Bytes() []byte {
	if t == nil {
		return nil
	}
	l := t.Ranges()
	b := withNumber([]byte{t.rest}, len(l))
	next := rune(0)
	for _, g := range l {
		b = withNumber(b, int(g.Lo-next))
		b = withNumber(b, int(g.Hi-g.Lo))
		b = append(b, byte(g.Class))
		next = g.Hi + 1
	}
	return b
}

// withNumber is b with the bytes of n behind it.
func withNumber(b []byte, n int) []byte {
	for ; n >= more; n >>= 7 {
		b = append(b, byte(n)|more)
	}
	return append(b, byte(n))
}

// Load: P3.7.
func Load(b []byte) (*Table, api.Errno) {
	left := reader(b)
	rest := left.class()
	left.number() // how many ranges there are shows by itself
	var l []api.Ranged
	for next := 0; len(left) > 0; {
		lo := next + left.number()
		hi := lo + left.number()
		class := left.class()
		if hi > api.MaxRune {
			return nil, api.ErrTable
		}
		l = append(l, api.Ranged{Lo: rune(lo), Hi: rune(hi), Class: class})
		next = hi + 1
	}
	// Any bytes can be read, somehow: they are a table's just if it would write them so.
	t := made(l, rest)
	if !bytes.Equal(t.Bytes(), b) {
		return nil, api.ErrTable
	}
	return t, api.OK
}

// reader is what is left to read; where nothing is, or no number, it reads 0.
type reader []byte

func (x *reader) class() int {
	if len(*x) == 0 {
		return 0
	}
	c := (*x)[0]
	*x = (*x)[1:]
	return int(c)
}

func (x *reader) number() int {
	n := 0
	for i, c := range (*x)[:min(longest, len(*x))] {
		n |= int(c&^more) << (7 * i)
		if c < more {
			*x = (*x)[i+1:]
			return n
		}
	}
	*x = nil // so that who reads on ends
	return 0
}
