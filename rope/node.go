package rope

import (
	"iter"
	"strings"

	"kerf/utf"
)

// What is counted of a text.
const (
	inBytes = iota
	inRunes
	inUnits
	inBreaks
	inAll // how many there are
)

// sums are the counts of a text.
type sums [inAll]int

// plus is what both count. Of two texts that meet at an edge that is what they count together.
func (x sums) plus(y sums) sums {
	for by, n := range y {
		x[by] += n
	}
	return x
}

// counted are the counts of a text that is by itself.
func counted(text string) sums {
	return sums{inBytes: len(text), inRunes: utf.Count(text), inUnits: utf.Units(text), inBreaks: strings.Count(text, "\n")}
}

// node is a text in a tree: a leaf has it, a branch has two nodes, of which neither is empty. What the two of a branch have
// meets at an edge of the whole, so that counts are just added; and their heights differ by one at most.
type node interface {
	// total is what the text counts.
	total() sums
	// height is how many steps there are to the leaf that is farthest off.
	height() int
	// piece is the text of the leaf that has the byte at at, and the place at which it begins. There is such a byte.
	piece(at int) (string, int)
	// ahead is what the runes count that stand wholly ahead of at, which is a place.
	ahead(at int) sums
	// find is the first edge ahead of which at least n are counted, or the end; and how many are counted there beyond n:
	// below 0, if there are fewer.
	find(n, by int) (int, int)
	// cut is the text ahead of at, and that from it on; at is a place.
	cut(at int) (node, node)
	// walk hands on the texts of the leaves from at on, till yield wants no more, and tells whether it still does.
	walk(at int, yield func(string) bool) bool
}

// leaf is a text of at most api.MaxPiece bytes. Only one that is the whole tree is empty.
type leaf struct {
	text string
	sum  sums
}

func newLeaf(text string) *leaf { return &leaf{text, counted(text)} }

func (x *leaf) total() sums { return x.sum }

func (x *leaf) height() int { return 0 }

func (x *leaf) piece(int) (string, int) { return x.text, 0 }

func (x *leaf) ahead(at int) sums { return counted(x.text[:utf.Back(x.text, at+1)]) }

func (x *leaf) find(n, by int) (int, int) {
	for at, r := range utf.Each(x.text) {
		if n <= 0 {
			return at, -n
		}
		n -= weight(r, by)
	}
	return len(x.text), -n
}

// weight is what a rune counts. (Bytes are not looked for by their number: they have it as their place.)
func weight(r rune, by int) int {
	switch {
	case by == inUnits && r > 0xffff:
		return 2
	case by == inBreaks && r != '\n':
		return 0
	}
	return 1
}

func (x *leaf) cut(at int) (node, node) { return newLeaf(x.text[:at]), newLeaf(x.text[at:]) }

func (x *leaf) walk(at int, yield func(string) bool) bool {
	return at >= len(x.text) || yield(x.text[at:])
}

// branch is a text and another one behind it.
type branch struct {
	left, right node
	sum         sums
	high        int
}

func newBranch(a, b node) *branch {
	return &branch{a, b, a.total().plus(b.total()), 1 + max(a.height(), b.height())}
}

// seam is the place at which the two meet.
func (x *branch) seam() int { return long(x.left) }

func (x *branch) total() sums { return x.sum }

func (x *branch) height() int { return x.high }

func (x *branch) piece(at int) (string, int) {
	seam := x.seam()
	if at < seam {
		return x.left.piece(at)
	}
	text, from := x.right.piece(at - seam)
	return text, from + seam
}

func (x *branch) ahead(at int) sums {
	seam := x.seam()
	if at < seam {
		return x.left.ahead(at)
	}
	return x.left.total().plus(x.right.ahead(at - seam))
}

func (x *branch) find(n, by int) (int, int) {
	there := x.left.total()[by]
	if n <= there {
		return x.left.find(n, by)
	}
	at, over := x.right.find(n-there, by)
	return at + x.seam(), over
}

func (x *branch) cut(at int) (node, node) {
	seam := x.seam()
	switch {
	case at < seam:
		a, b := x.left.cut(at)
		return a, balanced(b, x.right)
	case at > seam:
		a, b := x.right.cut(at - seam)
		return balanced(x.left, a), b
	}
	return x.left, x.right
}

func (x *branch) walk(at int, yield func(string) bool) bool {
	seam := x.seam()
	if at < seam && !x.left.walk(at, yield) {
		return false
	}
	return x.right.walk(max(at-seam, 0), yield)
}

// long is how many bytes a node's text has.
func long(n node) int { return n.total()[inBytes] }

// pieces goes over the texts of the leaves from at on.
func pieces(n node, at int) iter.Seq[string] {
	return func(yield func(string) bool) { n.walk(at, yield) }
}

// whole is the text of a node.
func whole(n node) string {
	var b strings.Builder
	b.Grow(long(n))
	for text := range pieces(n, 0) {
		b.WriteString(text)
	}
	return b.String()
}
