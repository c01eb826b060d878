package line

import (
	"math"
	"testing"

	"kerf/api"
	"kerf/props"
)

// TestP14_1Class holds the classes of all runes, and of numbers that are none, against those of api.LineProps.
func TestP14_1Class(t *testing.T) {
	d, e, line := props.New(api.LineProps)
	if e != api.OK {
		t.Fatalf("New: %d, %d", e, line)
	}
	names := []string{"Other", "Bk", "Cr", "Lf", "Sp", "Zw", "Wj", "Gl", "Cm", "Op", "Cp", "Cl", "Qu", "Ex", "Is", "Sy", "Hy", "Ba", "Dash", "In", "Nu", "Po", "Pr", "Id", "Ns", "Ri"}
	if len(names) != len(d.Names()) || classRi != len(names)-1 {
		t.Fatalf("%d names, of %d; Ri is %d", len(names), len(d.Names()), classRi)
	}
	for class, name := range names {
		if got := d.Names()[class]; got != name {
			t.Errorf("class %d: %s; want %s", class, got, name)
		}
	}
	for r := rune(0); r <= api.MaxRune; r++ {
		if got, want := classOf(r), d.Get(r); got != want {
			t.Fatalf("%x: %d; want %d", r, got, want)
		}
	}
	for _, r := range []rune{-1, math.MinInt32, api.MaxRune + 1, math.MaxInt32} {
		if got := classOf(r); got != classOther {
			t.Errorf("%x: %d", r, got)
		}
	}
}
