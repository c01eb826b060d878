package stream

import (
	"iter"

	"kerf/api"
	"kerf/props"
	"kerf/rules"
)

// Segments: P10.5.
func Segments(d *props.Db, rs api.RuleSet, src iter.Seq[string]) iter.Seq[string] {
	if src == nil || check(d, rs) != api.OK {
		return func(func(string) bool) {}
	}
	// rs may be another when it is gone over. Turned round twice the rules are what they were, in lists of their own.
	own := rules.Reverse(rules.Reverse(rs))
	return func(yield func(string) bool) {
		x, _ := New(d, own)
		var text []byte // what came behind the last place
		from := 0
		cut := func(places []int) bool {
			for _, at := range places {
				// Ahead of the place 0 nothing stands.
				if at == 0 {
					continue
				}
				part := string(text[:at-from])
				text, from = text[at-from:], at
				if !yield(part) {
					return false
				}
			}
			return true
		}
		for piece := range src {
			text = append(text, piece...)
			if !cut(x.Write([]byte(piece))) {
				return
			}
		}
		cut(x.End())
	}
}
