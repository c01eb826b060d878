package edit

import (
	"slices"
	"strings"

	"kerf/api"
)

// Tree is texts, each made of another one. Of those at which one does not stand only what leads there is kept.
type Tree struct {
	text  string
	at    int
	nodes []node
}

// node is one of a tree's: of which node it is a kid, the changes that lead from there and back, and its own kids.
type node struct {
	from     int
	do, undo api.Change
	kids     []int
}

// NewTree: P23.9.
func NewTree(s string) *Tree {
	return &Tree{text: strings.Clone(s), nodes: []node{{from: -1}}}
}

// Do: P23.10.
func (x *Tree) Do(c api.Change) (int, api.Errno) {
	if x == nil {
		return 0, api.OK
	}
	text, e := Apply(x.text, c)
	if e == api.OK && len(x.nodes) >= api.MaxNodesTree {
		e = api.ErrFull
	}
	if e != api.OK {
		return 0, e
	}
	do, _ := Norm(c)
	undo, _ := Invert(x.text, c)
	kid := len(x.nodes)
	x.nodes = append(x.nodes, node{from: x.at, do: do, undo: undo})
	x.nodes[x.at].kids = append(x.nodes[x.at].kids, kid)
	x.text, x.at = text, kid
	return kid, api.OK
}

// Undo: P23.10.
func (x *Tree) Undo() bool {
	if x == nil || x.at == 0 {
		return false
	}
	x.text, _ = Apply(x.text, x.nodes[x.at].undo)
	x.at = x.nodes[x.at].from
	return true
}

// Redo: P23.10.
func (x *Tree) Redo(i int) bool {
	if x == nil || i < 0 || i >= len(x.nodes[x.at].kids) {
		return false
	}
	x.at = x.nodes[x.at].kids[i]
	x.text, _ = Apply(x.text, x.nodes[x.at].do)
	return true
}

// Go: P23.11.
func (x *Tree) Go(node int) (api.Change, api.Errno) {
	switch {
	case x == nil:
		return api.Change{}, api.OK
	case node < 0 || node >= len(x.nodes):
		return api.Change{}, api.ErrNode
	}
	c := together(x.way(node), len(x.text))
	x.text, _ = Apply(x.text, c)
	x.at = node
	return c, api.OK
}

// way is the changes that lead to a node: back up to the one that both come from last, and down from there. A kid's number is above that of the node it comes from.
func (x *Tree) way(node int) []api.Change {
	var list []api.Change
	var lead func(from, to int)
	lead = func(from, to int) {
		switch {
		case from > to:
			list = append(list, x.nodes[from].undo)
			lead(x.nodes[from].from, to)
		case from < to:
			lead(from, x.nodes[to].from)
			list = append(list, x.nodes[to].do)
		}
	}
	lead(x.at, node)
	return list
}

// together is changes one behind the other as one of a text of so many bytes. They are composed by halves, so that what the first ones laid in is not copied once for each of the others.
func together(list []api.Change, long int) api.Change {
	if len(list) == 0 {
		return api.Change{Len: long}
	}
	if len(list) == 1 {
		c, _ := Norm(list[0])
		return c
	}
	half := len(list) / 2
	a := together(list[:half], long)
	c, _ := Compose(a, together(list[half:], Long(a)))
	return c
}

// Text: P23.11.
func (x *Tree) Text() string {
	if x == nil {
		return ""
	}
	return x.text
}

// Node: P23.11.
func (x *Tree) Node() int {
	if x == nil {
		return 0
	}
	return x.at
}

// Kids: P23.11.
func (x *Tree) Kids() []int {
	if x == nil {
		return nil
	}
	return slices.Clone(x.nodes[x.at].kids)
}

// Len: P23.11.
func (x *Tree) Len() int {
	if x == nil {
		return 0
	}
	return len(x.nodes)
}
