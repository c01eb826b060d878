package search

import (
	"slices"

	"kerf/api"
	"kerf/utf"
)

// Finder looks for a text in one that comes in pieces. It keeps no more of that than hunt knows, and what is not sure.
type Finder struct {
	hunt *hunt
	held []byte
}

// New: P22.5.
func New(t string) (*Finder, api.Errno) {
	if t == "" || len(t) > api.MaxNeedle {
		return nil, api.ErrNeedle
	}
	return &Finder{hunt: hunting(t, 0)}, api.OK
}

// Write: P22.5.
func (x *Finder) Write(p []byte) []int {
	if x == nil {
		return nil
	}
	text := string(slices.Concat(x.held, p))
	sure := len(text) - unsure(text)
	x.held = []byte(text[sure:])
	return x.read(text[:sure])
}

// Close: P22.5.
func (x *Finder) Close() []int {
	if x == nil {
		return nil
	}
	list := x.read(string(x.held))
	x.hunt.have, x.hunt.bytes, x.hunt.at, x.held = 0, 0, 0, nil
	return list
}

// Held: P22.5.
func (x *Finder) Held() int {
	if x == nil {
		return 0
	}
	return len(x.held)
}

// read tells where matches begin that end in a text which stands behind what was read, and whose runes are sure.
func (x *Finder) read(text string) []int {
	var list []int
	base := x.hunt.at
	for to, form := range plain(text) {
		if from, ok := x.hunt.read(form, base+to); ok {
			list = append(list, from)
		}
	}
	return list
}

// maxHeld is how many bytes may be a beginning of a sequence and not the whole.
const maxHeld = 3

// unsure is how many bytes at the end of a text are a beginning of a rune's sequence, not the whole. They are no more than
// the last few, and what stands ahead of those has no part in it: no sequence begins within another.
func unsure(s string) int {
	x := utf.NewScanner()
	x.Feed([]byte(s[max(0, len(s)-maxHeld):]))
	return x.Held()
}
