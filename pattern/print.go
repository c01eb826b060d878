package pattern

import (
	"strings"

	"kerf/api"
)

// Print: P5.3.
func Print(p api.Pattern, names []string) (string, api.Errno) {
	if _, ok := numbered(names); !ok {
		return "", api.ErrArg
	}
	if e := Check(p, len(names)); e != api.OK {
		return "", e
	}
	text := spelled(p, names)
	// Only the reader knows whether a text is too long, too deep, or has too many parts.
	if _, e, _ := Parse(text, names); e != api.OK {
		return "", e
	}
	return text, api.OK
}

func spelled(p api.Pattern, names []string) string {
	var out strings.Builder
	var write func(p api.Pattern, within int)
	write = func(p api.Pattern, within int) {
		if apart(p.Op, within) {
			out.WriteByte('(')
			defer out.WriteByte(')')
		}
		for i, kid := range p.Kids {
			if i > 0 {
				out.WriteString(between(p.Op))
			}
			write(kid, p.Op)
		}
		switch p.Op {
		case api.PatEmpty:
			out.WriteString("()")
		case api.PatSet:
			writeSet(&out, p.Classes, names)
		case api.PatMany:
			out.WriteByte('*')
		case api.PatSome:
			out.WriteByte('+')
		case api.PatMay:
			out.WriteByte('?')
		}
	}
	// Nothing stands around the whole, and a PatEmpty never has a Kid.
	write(p, api.PatEmpty)
	return out.String()
}

// apart is whether a node needs parentheses inside a node of the other Op.
func apart(op, within int) bool {
	switch within {
	case api.PatEmpty:
		return false
	case api.PatOr:
		return op == api.PatOr
	}
	return op == api.PatThen || op == api.PatOr
}

// between is what stands between two Kids.
func between(op int) string {
	if op == api.PatOr {
		return " | "
	}
	return " "
}

func writeSet(out *strings.Builder, classes []int, names []string) {
	if len(classes) == 1 {
		out.WriteString(names[classes[0]])
		return
	}
	if len(classes) == len(names) && len(names) > 0 {
		out.WriteByte('.')
		return
	}
	out.WriteByte('[')
	for i, c := range classes {
		if i > 0 {
			out.WriteByte(' ')
		}
		out.WriteString(names[c])
	}
	out.WriteByte(']')
}
