package rope

import (
	"kerf/api"
	"kerf/utf"
)

// grown is the tree of a text, by halves that meet at an edge.
func grown(s string) node {
	if len(s) <= api.MaxPiece {
		return newLeaf(s)
	}
	at := utf.Back(s, len(s)/2+1)
	return balanced(grown(s[:at]), grown(s[at:]))
}

// joined is a's text with b's behind it. Bytes on both sides of the seam that are one rune together become one leaf's.
func joined(a, b node) node {
	back, on := overSeam(a, b)
	if back == 0 {
		return glued(a, b)
	}
	a, first := a.cut(long(a) - back)
	second, b := b.cut(on)
	return glued(glued(a, newLeaf(whole(first)+whole(second))), b)
}

// overSeam is how many bytes the rune that goes over the seam of two texts has on each side of it: 0 and 0, if none does.
func overSeam(a, b node) (int, int) {
	ahead := tail(a)
	s := ahead + head(b)
	at := len(ahead)
	if utf.Is(s, at) {
		return 0, 0
	}
	return at - utf.Back(s, at), utf.On(s, at) - at
}

// most is how many bytes of a rune may stand on one side of a seam: the longest has four, and one of them on the other.
const most = 3

// tail is as much of a text's end as may belong to a rune that goes on behind it.
func tail(n node) string {
	s := ""
	for text := range pieces(n, max(long(n)-most, 0)) {
		s += text
	}
	return s
}

// head is as much of a text's beginning as may belong to a rune that began ahead of it.
func head(n node) string {
	s := ""
	for text := range pieces(n, 0) {
		s += text
		if len(s) >= most {
			return s[:most]
		}
	}
	return s
}

// glued is a's text with b's behind it, where the seam is an edge. Where a short leaf meets another one there, both become
// one, or two that are about as long, so that many short insertions do not leave a tree of crumbs.
func glued(a, b node) node {
	if long(a) == 0 || long(b) == 0 {
		return balanced(a, b)
	}
	last, from := a.piece(long(a) - 1)
	first, _ := b.piece(0)
	if min(len(last), len(first)) >= api.MaxPiece/4 && len(last)+len(first) > api.MaxPiece {
		return balanced(a, b)
	}
	a, _ = a.cut(from)
	_, b = b.cut(len(first))
	return balanced(balanced(a, grown(last+first)), b)
}

// balanced is the tree of two, of whatever heights: the lower one goes as deep into the other as its height asks for.
func balanced(a, b node) node {
	switch {
	case long(a) == 0:
		return b
	case long(b) == 0:
		return a
	case a.height() > b.height()+1:
		x := a.(*branch)
		return turned(x.left, balanced(x.right, b))
	case b.height() > a.height()+1:
		x := b.(*branch)
		return turned(balanced(a, x.left), x.right)
	}
	return newBranch(a, b)
}

// turned is the branch of two whose heights differ by two at most; where they do, parts of the higher one change hands.
func turned(a, b node) node {
	switch {
	case a.height() > b.height()+1:
		x := a.(*branch)
		if x.left.height() >= x.right.height() {
			return newBranch(x.left, newBranch(x.right, b))
		}
		y := x.right.(*branch)
		return newBranch(newBranch(x.left, y.left), newBranch(y.right, b))
	case b.height() > a.height()+1:
		x := b.(*branch)
		if x.right.height() >= x.left.height() {
			return newBranch(newBranch(a, x.left), x.right)
		}
		y := x.left.(*branch)
		return newBranch(newBranch(a, y.left), newBranch(y.right, x.right))
	}
	return newBranch(a, b)
}
