package utf

import (
	"slices"

	"kerf/api"
)

// maxHeld is how many bytes may be a beginning of a sequence and not the whole.
const maxHeld = 3

// Scanner finds the runes of bytes that come in pieces. It keeps the bytes that are not sure yet, and no others.
type Scanner struct {
	held [maxHeld]byte
	long int // how many bytes of held are held
	fed  int
}

// NewScanner: P1.6.
func NewScanner() *Scanner { return &Scanner{} }

// Feed: P1.6.
func (x *Scanner) Feed(p []byte) []api.Mark {
	if x == nil {
		return nil
	}
	b := p
	if x.long > 0 {
		b = slices.Concat(x.held[:x.long], p)
	}
	marks, sure := scan(b, x.fed-x.long)
	x.fed += len(p)
	x.long = copy(x.held[:], b[sure:])
	return marks
}

// Close: P1.7.
func (x *Scanner) Close() []api.Mark {
	if x == nil {
		return nil
	}
	var marks []api.Mark
	// What is held is one sequence cut off, and no sequence begins within another: every byte of it is a fault.
	for at := x.fed - x.long; at < x.fed; at++ {
		marks = append(marks, fault(at))
	}
	*x = Scanner{}
	return marks
}

// Held: P1.8.
func (x *Scanner) Held() int {
	if x == nil {
		return 0
	}
	return x.long
}

// Fed: P1.8.
func (x *Scanner) Fed() int {
	if x == nil {
		return 0
	}
	return x.fed
}

// scan tells the sure runes of b, which begins at the place base of all that was fed, and how many bytes of b they have together.
func scan(b []byte, base int) (marks []api.Mark, sure int) {
	var (
		at, more  int // the byte that is looked at, and how many are to come of its sequence
		r         rune
		low, high byte // the least and the greatest that the next byte may be
	)

begin:
	if sure == len(b) {
		return marks, sure
	}
	r, more, low, high = lead(b[sure])
	if more < 0 {
		goto wrong
	}
	at = sure + 1

follow:
	if more == 0 {
		goto whole
	}
	if at == len(b) {
		return marks, sure
	}
	if b[at] < low || b[at] > high {
		goto wrong
	}
	r = r<<6 | rune(b[at]&0x3f)
	low, high = 0x80, 0xbf
	at++
	more--
	goto follow

whole:
	marks = append(marks, api.Mark{At: base + sure, Width: at - sure, R: r})
	sure = at
	goto begin

wrong:
	// Only the first byte is a fault for sure: those behind it may begin a rune.
	marks = append(marks, fault(base+sure))
	sure++
	goto begin
}

// lead tells of a first byte: the rune's bits that it has, how many bytes follow (below 0: it begins no sequence), and the least and the greatest that the next one may be.
// The span of the next byte is narrower where the rune would have a shorter sequence, lie from d800 to dfff, or above api.MaxRune; that way a wrong sequence is known for wrong at its second byte, and no byte is held that can't become a rune.
func lead(c byte) (r rune, more int, low, high byte) {
	low, high = 0x80, 0xbf
	switch {
	case c < 0x80:
		return rune(c), 0, low, high
	case c < 0xc2 || c > 0xf4:
		return 0, -1, low, high
	case c < 0xe0:
		return rune(c & 0x1f), 1, low, high
	case c < 0xf0:
		r, more = rune(c&0x0f), 2
	default:
		r, more = rune(c&0x07), 3
	}
	switch c {
	case 0xe0:
		low = 0xa0
	case 0xed:
		high = 0x9f
	case 0xf0:
		low = 0x90
	case 0xf4:
		high = 0x8f
	}
	return r, more, low, high
}

// fault is the mark of a fault at a place.
func fault(at int) api.Mark {
	return api.Mark{At: at, Width: 1, R: api.Instead, Bad: true}
}
