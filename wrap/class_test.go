package wrap

import (
	"slices"
	"strings"
	"testing"

	"kerf/api"
	"kerf/props"
)

// TestP16_4LineEnds holds the runes that end a line against those that api.LineProps names.
func TestP16_4LineEnds(t *testing.T) {
	d, e, line := props.New(api.LineProps)
	if e != api.OK {
		t.Fatalf("New: %d, %d", e, line)
	}
	names := d.Names()
	for r := rune(0); r <= api.MaxRune; r++ {
		want := slices.Contains([]string{"Bk", "Cr", "Lf"}, names[d.Get(r)])
		if r < 0xd800 || r > 0xdfff {
			if got := strings.ContainsRune(lineEnds, r); got != want {
				t.Errorf("%x: %v; want %v", r, got, want)
			}
		}
	}
}
