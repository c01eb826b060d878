package norm

import (
	"slices"

	"kerf/api"
	"kerf/utf"
)

// Stream is a text that comes in pieces. It keeps the bytes that were written and not told.
type Stream struct {
	form int
	scan *utf.Scanner
	held []byte
}

// New: P18.6.
func New(form int) (*Stream, api.Errno) {
	if !isForm(form) {
		return nil, api.ErrNorm
	}
	return &Stream{form: form, scan: utf.NewScanner()}, api.OK
}

// Write: P18.6.
func (x *Stream) Write(p []byte) string {
	if x == nil {
		return ""
	}
	marks := x.scan.Feed(p)
	x.held = append(x.held, p...)
	t := tables{form: x.form}
	to := x.safe(&t, marks)
	if to == 0 {
		return ""
	}
	told := string(x.held[:to])
	x.held = slices.Clone(x.held[to:])
	return t.text(told)
}

// safe is how many of the held bytes stand ahead of the last safe place. It is enough to look at the runes that came:
// had there been such a place ahead of them, all up to there would have been told.
func (x *Stream) safe(t *tables, came []api.Mark) int {
	told := x.scan.Fed() - len(x.held)
	for _, m := range slices.Backward(came) {
		if m.Bad || t.safe(m.R) {
			return m.At - told
		}
	}
	return 0
}

// Close: P18.6.
func (x *Stream) Close() string {
	if x == nil {
		return ""
	}
	rest := string(x.held)
	x.scan.Close()
	x.held = nil
	return Form(rest, x.form)
}

// Held: P18.6.
func (x *Stream) Held() int {
	if x == nil {
		return 0
	}
	return len(x.held)
}
