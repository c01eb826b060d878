package norm_test

import (
	"math"
	"math/rand"
	"slices"
	"strconv"
	"strings"
	"testing"

	"kerf/api"
	"kerf/utf"
)

// What stands here is the chapter spelt out as plainly as can be, on the calls of the layers below: the tests hold the package against it.

// forms are the four, and none are numbers that are no form.
var (
	forms = []int{api.FormD, api.FormC, api.FormKD, api.FormKC}
	none  = []int{-1, 4, 5, 7, math.MinInt, math.MaxInt}
)

// noRunes are numbers that are none.
var noRunes = []rune{-1, math.MinInt32, 0xd800, 0xdbff, 0xdc00, 0xdfff, 0x110000, math.MaxInt32, -0x300, 0x110000 + 0x301}

// book is what the tables say, line by line.
type book struct {
	apart, also [][]rune
	orders      [][3]int
	out         []rune
}

func hex(t *testing.T, field string) rune {
	t.Helper()
	n, err := strconv.ParseUint(field, 16, 21)
	if err != nil {
		t.Fatal(err)
	}
	return rune(n)
}

// lines are those of a table, field by field.
func lines(t *testing.T, table string) [][]string {
	t.Helper()
	rest, ok := strings.CutSuffix(table, "\n")
	if !ok {
		t.Fatal("a line without an end")
	}
	var l [][]string
	for _, line := range strings.Split(rest, "\n") {
		l = append(l, strings.Split(line, " "))
	}
	return l
}

func bookOf(t *testing.T) *book {
	t.Helper()
	x := &book{}
	for _, line := range lines(t, api.NormApart) {
		x.apart = append(x.apart, runesOf(t, line))
	}
	for _, line := range lines(t, api.NormAlso) {
		x.also = append(x.also, runesOf(t, line))
	}
	for _, line := range lines(t, api.NormOrder) {
		order, err := strconv.Atoi(line[2])
		if err != nil || len(line) != 3 {
			t.Fatal(line, err)
		}
		x.orders = append(x.orders, [3]int{int(hex(t, line[0])), int(hex(t, line[1])), order})
	}
	for _, line := range lines(t, api.NormOut) {
		x.out = append(x.out, runesOf(t, line)...)
	}
	return x
}

func runesOf(t *testing.T, fields []string) []rune {
	t.Helper()
	var l []rune
	for _, field := range fields {
		l = append(l, hex(t, field))
	}
	return l
}

func (x *book) order(r rune) int {
	for _, line := range x.orders {
		if int(r) >= line[0] && int(r) <= line[1] {
			return line[2]
		}
	}
	return 0
}

// step is what stands in the place of r by one line, or by reckoning; nil, if nothing does.
func (x *book) step(r rune, form int) []rune {
	for _, line := range x.apart {
		if line[0] == r {
			return line[1:]
		}
	}
	for _, line := range x.also {
		if line[0] == r && (form == api.FormKD || form == api.FormKC) {
			return line[1:]
		}
	}
	if r < 0xac00 || r > 0xd7a3 {
		return nil
	}
	n := r - 0xac00
	if n%28 == 0 {
		return []rune{0x1100 + n/588, 0x1161 + n%588/28}
	}
	return []rune{0x1100 + n/588, 0x1161 + n%588/28, 0x11a7 + n%28}
}

// wholly is r fallen apart, step by step.
func (x *book) wholly(r rune, form int) []rune {
	if utf.Width(r) == 0 {
		return nil
	}
	l := []rune{r}
	if !slices.Contains(forms, form) {
		return l
	}
	for at := 0; at < len(l); {
		if next := x.step(l[at], form); next != nil {
			l = slices.Replace(l, at, at+1, next...)
		} else {
			at++
		}
	}
	return l
}

func (x *book) join(a, b rune) (rune, bool) {
	for _, line := range x.apart {
		if len(line) == 3 && line[1] == a && line[2] == b && !slices.Contains(x.out, line[0]) {
			return line[0], true
		}
	}
	if a >= 0x1100 && a <= 0x1112 && b >= 0x1161 && b <= 0x1175 {
		return 0xac00 + (a-0x1100)*588 + (b-0x1161)*28, true
	}
	if a >= 0xac00 && a <= 0xd7a3 && (a-0xac00)%28 == 0 && b >= 0x11a8 && b <= 0x11c2 {
		return a + (b - 0x11a7), true
	}
	return 0, false
}

// second is whether r is the second of two that join.
func (x *book) second(r rune) bool {
	for _, line := range x.apart {
		if _, ok := x.join(line[1], r); ok {
			return true
		}
	}
	_, vowel := x.join(0x1100, r)
	_, end := x.join(0xac00, r)
	return vowel || end
}

// element is a rune, or a fault: the byte of it stands in bad, then, and the rune is -1.
type element struct {
	r   rune
	bad byte
}

func (x element) fault() bool { return x.r < 0 }

func elements(s string) []element {
	faults := utf.Faults(s)
	var l []element
	for at, r := range utf.Each(s) {
		if slices.Contains(faults, at) {
			l = append(l, element{-1, s[at]})
		} else {
			l = append(l, element{r, 0})
		}
	}
	return l
}

func bytesOf(l []element) string {
	var b strings.Builder
	for _, x := range l {
		if x.fault() {
			b.WriteByte(x.bad)
		} else {
			b.WriteString(utf.Encode(x.r))
		}
	}
	return b.String()
}

func (x *book) form(s string, form int) string {
	if !slices.Contains(forms, form) {
		return s
	}
	var l []element
	for _, y := range elements(s) {
		if y.fault() {
			l = append(l, y)
			continue
		}
		for _, r := range x.wholly(y.r, form) {
			l = append(l, element{r, 0})
		}
	}
	x.sort(l)
	if form == api.FormC || form == api.FormKC {
		l = x.joined(l)
	}
	return bytesOf(l)
}

// sort changes two neighbours as long as there are two that stand wrong.
func (x *book) sort(l []element) {
	for changed := true; changed; {
		changed = false
		for at := 1; at < len(l); at++ {
			if a, b := x.order(l[at-1].r), x.order(l[at].r); b > 0 && a > b {
				l[at-1], l[at] = l[at], l[at-1]
				changed = true
			}
		}
	}
}

func (x *book) joined(l []element) []element {
	for at := 0; at < len(l); {
		if a, ok := x.with(l, at); ok {
			l[a].r, _ = x.join(l[a].r, l[at].r)
			l = slices.Delete(l, at, at+1)
		} else {
			at++
		}
	}
	return l
}

// with is the place of the starter that the element at the place at joins, and whether there is one.
func (x *book) with(l []element, at int) (int, bool) {
	if l[at].fault() {
		return 0, false
	}
	a := at - 1
	for a >= 0 && (l[a].fault() || x.order(l[a].r) > 0) {
		a--
	}
	if a < 0 {
		return 0, false
	}
	for _, y := range l[a+1 : at] {
		if y.fault() || x.order(y.r) == 0 || x.order(y.r) >= x.order(l[at].r) {
			return 0, false
		}
	}
	_, ok := x.join(l[a].r, l[at].r)
	return a, ok
}

func (x *book) safe(s string, at, form int) bool {
	if !utf.Is(s, at) {
		return false
	}
	if at == 0 || at == len(s) || !slices.Contains(forms, form) {
		return true
	}
	behind := elements(s[at:])[0]
	if behind.fault() {
		return true
	}
	first := x.wholly(behind.r, form)[0]
	if form == api.FormC || form == api.FormKC {
		return x.order(first) == 0 && !x.second(first)
	}
	return x.order(first) == 0
}

// plainStream keeps all that was written.
type plainStream struct {
	*book
	form    int
	written string
	told    int
}

func (x *plainStream) write(p string) string {
	x.written += p
	scan := utf.NewScanner()
	scan.Feed([]byte(x.written))
	w := x.written[:len(x.written)-scan.Held()]
	for at := len(w) - 1; at > x.told; at-- {
		if x.safe(w, at, x.form) {
			from := x.told
			x.told = at
			return x.book.form(w[from:at], x.form)
		}
	}
	return ""
}

func (x *plainStream) close() string {
	rest := x.book.form(x.written[x.told:], x.form)
	x.written, x.told = "", 0
	return rest
}

func (x *plainStream) held() int { return len(x.written) - x.told }

// parts are starters with and without joins, marks of many orders, what falls apart by one line, by several and by both tables, Hangul, and faults.
var parts = []string{
	"a", "e", "A", "s", "S", "f", "u", " ", "\n", "\u00e9", "\u00e2", "\u00fc", "\u1e69", "\u1ea1", "\u01d8", "\u212b", "\u2126", "\u1e9b", "\u017f", "\ufb03", "\u00bc", "\u2026", "\u4e00", "\U0001f600", "\ufffd",
	"\u0300", "\u0301", "\u0302", "\u0304", "\u0307", "\u0308", "\u0315", "\u031b", "\u0323", "\u0327", "\u0328", "\u0334", "\u0340", "\u0344", "\u0345", "\u05b4", "\u093c", "\u094d", "\u3099", "\u309a",
	"\u0915", "\u0958", "\u05d9", "\ufb1d", "\u304b", "\u304c", "\u306f", "\u30ab", "\uff76", "\uff9e", "\uff9f", "\u03b9", "\u0390", "\u0418",
	"\u1100", "\u1112", "\u1113", "\u1160", "\u1161", "\u1175", "\u1176", "\u11a7", "\u11a8", "\u11c2", "\u11c3", "\uac00", "\uac01", "\uac1b", "\uac1c", "\ud788", "\ud7a3",
	"\xff", "\x80", "\xe2\x82", "\xcc", "\xf0\x9f\x98", "\xe1\x84", "\xed\xa0\x80",
}

// someText is at most so many of the parts, those of some few more often than the others.
func someText(r *rand.Rand, most int) string {
	few := parts
	switch r.Intn(5) {
	case 0:
		few = []string{"\u1100", "\u1161", "\u11a8", "\uac00", "\uac01", "\u0301"}
	case 1:
		few = []string{"a", "\u0301", "\u0302", "\u0323", "\u0327", "\u0334", "\u0344"}
	case 2:
		few = []string{"s", "\u017f", "\u0307", "\u0323", "\u1e9b", "\u0301", "\xff"}
	case 3:
		few = []string{"\u30ab", "\uff76", "\uff9e", "\u3099", "\u0345", "\u304b", "\u306f", "\u309a"}
	}
	var s strings.Builder
	for range r.Intn(most + 1) {
		if r.Intn(4) == 0 {
			s.WriteString(parts[r.Intn(len(parts))])
		} else {
			s.WriteString(few[r.Intn(len(few))])
		}
	}
	return s.String()
}

// rows goes over all texts of so many of these parts.
func rows(long int, parts ...string) func(func(string) bool) {
	return func(yield func(string) bool) {
		row := make([]int, long)
		for {
			var s strings.Builder
			for _, i := range row {
				s.WriteString(parts[i])
			}
			if !yield(s.String()) {
				return
			}
			i := 0
			for i < long && row[i] == len(parts)-1 {
				row[i] = 0
				i++
			}
			if i == long {
				return
			}
			row[i]++
		}
	}
}

// someCuts is s in pieces, of which some may be empty.
func someCuts(r *rand.Rand, s string) []string {
	var l []string
	for s != "" {
		n := min(r.Intn(5), len(s))
		l = append(l, s[:n])
		s = s[n:]
	}
	return l
}

// by is s in pieces of so many bytes.
func by(s string, long int) []string {
	var l []string
	for len(s) > long {
		l = append(l, s[:long])
		s = s[long:]
	}
	return append(l, s)
}

// cut is s in pieces, by the bits of where: one piece ends behind each byte whose bit is 1.
func cut(s string, where int) []string {
	var l []string
	from := 0
	for at := range len(s) {
		if where>>at&1 == 1 {
			l = append(l, s[from:at+1])
			from = at + 1
		}
	}
	return append(l, s[from:])
}
