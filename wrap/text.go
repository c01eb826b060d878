package wrap

import (
	"strings"

	"kerf/api"
	"kerf/line"
	"kerf/width"
)

// lineEnds are the runes of the classes Bk, Cr and Lf of chapter 14.
const lineEnds = "\n\v\f\r\u0085\u2028\u2029"

// softHyphen is the rune behind which a line that ends there shows a hyphen.
const softHyphen = "\u00ad"

// parted is the boxes of a text, and the place of each, with that behind the last one.
func parted(s string, o api.Cells) (boxes []api.Box, places []int, e api.Errno) {
	if e := width.Check(o); e != api.OK {
		return nil, nil, e
	}
	o.Start = 0
	from := 0
	places = append(places, from)
	for at, must := range line.Each(s) {
		if len(boxes) == api.MaxBoxes {
			return nil, nil, api.ErrMany
		}
		boxes = append(boxes, boxOf(s[from:at], must, o))
		places = append(places, at)
		from = at
	}
	return boxes, places, api.OK
}

// boxOf is that of a piece between two chances.
func boxOf(piece string, must bool, o api.Cells) api.Box {
	seen := piece[:line.Trail(piece)]
	cells := width.Text(seen, o)
	blank := width.Text(strings.TrimRight(piece, lineEnds), o) - cells
	box := api.Box{Width: min(cells, api.MaxCells), Blank: min(max(blank, 0), api.MaxCells), Must: must}
	if strings.HasSuffix(seen, softHyphen) {
		box.Hyphen = 1
	}
	return box
}
