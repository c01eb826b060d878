package dfa

import "kerf/api"

// Put: P7.9.
func Put(d api.Dfa) ([]byte, api.Errno) {
	if !good(d) {
		return nil, api.ErrDfa
	}
	b := putNumber(nil, d.Classes)
	b = putNumber(b, len(d.Next))
	for s, row := range d.Next {
		b = putNumber(b, d.Take[s])
		for _, to := range row {
			b = putNumber(b, to+1)
		}
	}
	return b, api.OK
}

// A byte of a number has seven bits of it; the highest one says that there are more.
const (
	sevenBits = 7
	more      = 1 << sevenBits
)

func putNumber(b []byte, n int) []byte {
	for ; n >= more; n >>= sevenBits {
		b = append(b, byte(n%more)|more)
	}
	return append(b, byte(n))
}

// Get: P7.9.
func Get(b []byte) (api.Dfa, api.Errno) {
	x := &reader{bytes: b}
	d := api.Dfa{Classes: x.number(api.MaxClasses)}
	states := x.number(api.MaxSets)
	for range states {
		d.Take = append(d.Take, x.number(1))
		row := make([]int, d.Classes)
		for c := range row {
			row[c] = x.number(states) - 1
		}
		d.Next = append(d.Next, row)
		if x.bad {
			break
		}
	}
	if x.bad || len(x.bytes) > 0 || !good(d) {
		return api.Dfa{}, api.ErrBytes
	}
	return d, api.OK
}

// reader reads numbers from the front of bytes.
type reader struct {
	bytes []byte
	bad   bool // whether one was none, or too great
}

// number is the next one, no more than most, which has two bytes at most; 0, if it is bad.
func (x *reader) number(most int) int {
	n, size := 0, 0
	for {
		if size == 2 || size == len(x.bytes) {
			x.bad = true
			return 0
		}
		b := x.bytes[size]
		n |= int(b%more) << (size * sevenBits)
		size++
		if b < more {
			break
		}
	}
	// A last byte without a bit would make the number longer than need be.
	if n > most || size > 1 && x.bytes[size-1] == 0 {
		x.bad = true
		return 0
	}
	x.bytes = x.bytes[size:]
	return n
}
