package table_test

import (
	"math"
	"math/rand"
	"slices"

	"kerf/api"
)

// What stands here is the chapter spelt out as plainly as can be, with nothing of the package: the tests hold the package against it.

const numbers = 0x110000

// plain is a table as a list of the classes of all numbers.
type plain struct {
	class []uint8
	rest  int
}

// ranged is a list of ranges: of each Lo, Hi and Class.
func ranged(l ...int) []api.Ranged {
	var out []api.Ranged
	for i := 0; i+2 < len(l); i += 3 {
		out = append(out, api.Ranged{Lo: rune(l[i]), Hi: rune(l[i+1]), Class: l[i+2]})
	}
	return out
}

// wrong: whether the range itself is.
func wrong(g api.Ranged) bool {
	return g.Lo < 0 || g.Hi > 0x10ffff || g.Lo > g.Hi || g.Class < 0 || g.Class > 255
}

// plainOf is P3.1, number for number.
func plainOf(l []api.Ranged, rest int) (*plain, api.Errno, int) {
	if rest < 0 || rest > 255 {
		return nil, api.ErrRange, 0
	}
	if len(l) > 4096 {
		return nil, api.ErrMany, 0
	}
	p := &plain{slices.Repeat([]uint8{uint8(rest)}, numbers), rest}
	taken := make([]bool, numbers)
	for i, g := range l {
		if wrong(g) {
			return nil, api.ErrRange, i
		}
		for r := g.Lo; r <= g.Hi; r++ {
			if taken[r] {
				return nil, api.ErrThere, i
			}
			taken[r] = true
			p.class[r] = uint8(g.Class)
		}
	}
	return p, api.OK, 0
}

func (p *plain) ranges() []api.Ranged {
	var l []api.Ranged
	for r, c := range p.class {
		switch {
		case int(c) == p.rest:
		case r > 0 && p.class[r-1] == c:
			l[len(l)-1].Hi++
		default:
			l = append(l, api.Ranged{Lo: rune(r), Hi: rune(r), Class: int(c)})
		}
	}
	return l
}

func (p *plain) blocks() int {
	unlike := map[string]bool{}
	for lo := 0; lo < numbers; lo += 128 {
		unlike[string(p.class[lo:lo+128])] = true
	}
	return len(unlike)
}

// counts has of each class how many numbers have it.
func (p *plain) counts() [256]int {
	var n [256]int
	for _, c := range p.class {
		n[c]++
	}
	return n
}

func (p *plain) mapped(to []int) (*plain, api.Errno) {
	for _, c := range to {
		if c < 0 || c > 255 {
			return nil, api.ErrRange
		}
	}
	if p.rest >= len(to) {
		return nil, api.ErrRange
	}
	q := &plain{make([]uint8, numbers), to[p.rest]}
	for r, c := range p.class {
		if int(c) >= len(to) {
			return nil, api.ErrRange
		}
		q.class[r] = uint8(to[c])
	}
	return q, api.OK
}

func pairOf(a, b *plain) (*plain, []api.Two, api.Errno) {
	var pairs []api.Two
	of := make([]int, numbers)
	number := map[api.Two]int{}
	for r := range of {
		two := api.Two{A: int(a.class[r]), B: int(b.class[r])}
		if _, ok := number[two]; !ok {
			number[two] = len(pairs)
			pairs = append(pairs, two)
		}
		of[r] = number[two]
	}
	rests := api.Two{A: a.rest, B: b.rest}
	if _, ok := number[rests]; !ok {
		number[rests] = len(pairs)
		pairs = append(pairs, rests)
	}
	if len(pairs) > 256 {
		return nil, nil, api.ErrMany
	}
	p := &plain{make([]uint8, numbers), number[rests]}
	for r, n := range of {
		p.class[r] = uint8(n)
	}
	return p, pairs, api.OK
}

// seven is a number in bytes of seven bits.
func seven(n int) []byte {
	if n < 128 {
		return []byte{byte(n)}
	}
	return append([]byte{byte(n%128 + 128)}, seven(n/128)...)
}

func (p *plain) bytes() []byte {
	l := p.ranges()
	b := append([]byte{byte(p.rest)}, seven(len(l))...)
	end := -1
	for _, g := range l {
		b = append(b, seven(int(g.Lo)-end-1)...)
		b = append(b, seven(int(g.Hi-g.Lo))...)
		b = append(b, byte(g.Class))
		end = int(g.Hi)
	}
	return b
}

// unseven takes a number off b: its value, how many bytes it has; 0 bytes, if none stands there. A number that is too great for any table is as good as none.
func unseven(b []byte) (int, int) {
	n := 0
	for i, c := range b {
		if i == 4 {
			return 0, 0
		}
		n += int(c%128) << (7 * i)
		if c < 128 {
			if c == 0 && i > 0 { // one byte fewer would do
				return 0, 0
			}
			return n, i + 1
		}
	}
	return 0, 0
}

// read is P3.7's Load, rule for rule: the rest and the ranges, and whether b is a table's.
func read(b []byte) (l []api.Ranged, rest int, ok bool) {
	if len(b) == 0 {
		return nil, 0, false
	}
	rest = int(b[0])
	many, w := unseven(b[1:])
	if w == 0 {
		return nil, 0, false
	}
	b = b[1+w:]
	end := -1
	for range many {
		gap, w := unseven(b)
		more, v := unseven(b[w:])
		if w == 0 || v == 0 || len(b) == w+v {
			return nil, 0, false
		}
		g := api.Ranged{Lo: rune(end + 1 + gap), Hi: rune(end + 1 + gap + more), Class: int(b[w+v])}
		touches := gap == 0 && len(l) > 0 && l[len(l)-1].Class == g.Class
		if wrong(g) || g.Class == rest || touches {
			return nil, 0, false
		}
		l = append(l, g)
		end = int(g.Hi)
		b = b[w+v+1:]
	}
	return l, rest, len(b) == 0
}

// lists are lists of ranges that Build takes.
func lists() [][]api.Ranged {
	l := [][]api.Ranged{
		nil, {},
		ranged(0x61, 0x7a, 1, 0x300, 0x36f, 2), ranged(0x61, 0x7a, 1), ranged(0x300, 0x36f, 2, 0x61, 0x7a, 1),
		ranged(0, 0, 1), ranged(0, 0, 0), ranged(0x10ffff, 0x10ffff, 1), ranged(0, 0x10ffff, 1), ranged(0, 0x10ffff, 0), ranged(0, 0x10ffff, 255), ranged(1, 0x10fffe, 9),
		ranged(0xd800, 0xdfff, 3), ranged(0xd7ff, 0xd7ff, 1, 0xd800, 0xd800, 2, 0xdfff, 0xdfff, 3, 0xe000, 0xe000, 4), ranged(0xfffd, 0xfffd, 5),
		ranged(10, 12, 1, 13, 15, 1), ranged(13, 15, 1, 10, 12, 1), ranged(10, 12, 1, 13, 15, 2), ranged(13, 15, 2, 10, 12, 1), // which touch
		ranged(10, 12, 1, 14, 15, 1), ranged(10, 12, 1, 13, 13, 0, 14, 15, 1), ranged(10, 12, 1, 13, 13, 7, 14, 15, 1),
		ranged(0, 127, 1), ranged(128, 255, 1), ranged(0, 127, 1, 128, 255, 1), ranged(0, 127, 1, 128, 255, 2), ranged(0, 128, 1), ranged(127, 128, 1), ranged(127, 255, 1), ranged(1, 127, 1, 128, 300, 2), // at the ends of blocks
		ranged(5, 300, 4), ranged(5, 5, 1, 133, 133, 1, 261, 261, 1), ranged(5, 5, 1, 133, 133, 2, 261, 261, 1), ranged(100, 1000, 1, 1001, 1001, 2, 1002, 5000, 1),
		ranged(0x10ff80, 0x10ffff, 1), ranged(0x10ff7f, 0x10ffff, 1), ranged(0x10ff81, 0x10ffff, 1), ranged(0x10ff80, 0x10fffe, 1), // the last block
		ranged(0x10ff00, 0x10ff7f, 6, 0x10ff80, 0x10ffff, 6), ranged(0, 0x10ff7f, 1), ranged(0x7f, 0x10ff80, 2),
		ranged(0, 0xffff, 1, 0x10000, 0x10ffff, 2), ranged(0x10000, 0x10ffff, 2, 0, 0xffff, 1), ranged(0, 0, 255, 1, 1, 254, 2, 2, 253),
		ranged(0x3fff, 0x3fff, 1), ranged(0x4000, 0x4000, 1), ranged(0, 0x4000, 1), ranged(0x80, 0x100, 1, 0x181, 0x4180, 2), ranged(0, 0x80, 1), ranged(0, 0x3fff, 1),
	}
	rnd := rand.New(rand.NewSource(3))
	for i := range 60 {
		l = append(l, apart(rnd, rnd.Intn(40), []int{300, 3000, 40000, numbers}[i%4]))
	}
	return l
}

// apart are ranges, up to many of them, that share no number, in any order, of numbers below end.
func apart(rnd *rand.Rand, many, end int) []api.Ranged {
	var l []api.Ranged
	cuts := []int{0, end}
	for range many {
		cuts = append(cuts, rnd.Intn(end))
	}
	slices.Sort(cuts)
	for i, lo := range cuts[:len(cuts)-1] {
		if lo < cuts[i+1] && rnd.Intn(3) > 0 {
			l = append(l, api.Ranged{Lo: rune(lo), Hi: rune(cuts[i+1] - 1), Class: rnd.Intn(4)})
		}
	}
	rnd.Shuffle(len(l), func(i, k int) { l[i], l[k] = l[k], l[i] })
	return l
}

// strewn are that many ranges of one number each, no two of which touch.
func strewn(many int) []api.Ranged {
	var l []api.Ranged
	for i := range many {
		l = append(l, api.Ranged{Lo: rune(3 * i), Hi: rune(3 * i), Class: 1 + i%200})
	}
	return l
}

// odd are numbers that are no number of a table, and some at its ends.
var odd = []rune{math.MinInt32, -0x110000, -129, -128, -127, -2, -1, 0x110000, 0x110001, 0x11007f, 0x110080, 0x200000, math.MaxInt32}
