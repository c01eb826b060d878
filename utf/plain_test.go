package utf_test

import (
	"math/rand"
	"strings"

	"kerf/api"
)

// What stands here is section 1.1 spelt out as plainly as can be, with nothing of the package and nothing of the library's own decoding: the tests hold the package against it.

// rows are those of the table: the first and the last rune, how many bytes, and the bits that the first byte begins with.
var rows = []struct {
	lo, hi rune
	long   int
	head   byte
}{
	{0, 0x7f, 1, 0x00},
	{0x80, 0x7ff, 2, 0xc0},
	{0x800, 0xffff, 3, 0xe0},
	{0x10000, 0x10ffff, 4, 0xf0},
}

func isRune(r rune) bool {
	return r >= 0 && r <= 0x10ffff && (r < 0xd800 || r > 0xdfff)
}

// sequence is that of a rune, by the table; "" of what is no rune.
func sequence(r rune) string {
	for _, w := range rows {
		if !isRune(r) || r < w.lo || r > w.hi {
			continue
		}
		b := make([]byte, w.long)
		for i := w.long - 1; i > 0; i-- {
			b[i] = 0x80 | byte(r&0x3f)
			r >>= 6
		}
		b[0] = w.head | byte(r)
		return string(b)
	}
	return ""
}

// first is the mark of the first rune of s, which is not empty.
func first(s string) api.Mark {
	for _, w := range rows {
		if len(s) < w.long {
			break
		}
		r := rune(s[0] &^ w.head)
		for i := 1; i < w.long; i++ {
			r = r<<6 | rune(s[i]&0x3f)
		}
		if isRune(r) && sequence(r) == s[:w.long] {
			return api.Mark{Width: w.long, R: r}
		}
	}
	return api.Mark{Width: 1, R: 0xfffd, Bad: true}
}

// marksOf are the marks of all the runes of s.
func marksOf(s string) []api.Mark {
	var l []api.Mark
	for at := 0; at < len(s); at += l[len(l)-1].Width {
		m := first(s[at:])
		m.At = at
		l = append(l, m)
	}
	return l
}

func runesOf(s string) []rune {
	var l []rune
	for _, m := range marksOf(s) {
		l = append(l, m.R)
	}
	return l
}

func faultsOf(s string) []int {
	var l []int
	for _, m := range marksOf(s) {
		if m.Bad {
			l = append(l, m.At)
		}
	}
	return l
}

func cleanOf(s string) string {
	var b strings.Builder
	for _, m := range marksOf(s) {
		b.WriteString(sequence(m.R))
	}
	return b.String()
}

func edgesOf(s string) []int {
	var l []int
	for _, m := range marksOf(s) {
		l = append(l, m.At)
	}
	return append(l, len(s))
}

// beginnings are all that is a beginning of a sequence, not empty and not the whole of it.
func beginnings() map[string]bool {
	all := map[string]bool{}
	for r := rune(0x80); r <= 0x10ffff; r += 0x40 { // the last byte, with its six bits, is in no beginning
		q := sequence(r)
		for i := 1; i < len(q); i++ {
			all[q[:i]] = true
		}
	}
	return all
}

// heldOf is how many of the last bytes of s are not sure.
func heldOf(s string, begun map[string]bool) int {
	for _, at := range edgesOf(s) {
		if begun[s[at:]] {
			return len(s) - at
		}
	}
	return 0
}

// sharp are the bytes at which what a sequence may be changes, and their neighbours.
const sharp = "\x00A\x7f\x80\x8f\x90\x9f\xa0\xbf\xc0\xc1\xc2\xdf\xe0\xe1\xec\xed\xee\xef\xf0\xf1\xf3\xf4\xf5\xff"

// sharpTexts are all texts of so many sharp bytes.
func sharpTexts(long int) []string {
	l := []string{""}
	for range long {
		var longer []string
		for _, s := range l {
			for i := range len(sharp) {
				longer = append(longer, s+sharp[i:i+1])
			}
		}
		l = longer
	}
	return l
}

// named are texts at the edges that the document names.
func named() []string {
	l := []string{
		"", "a", "abc", "\x00", "\ufffd", "a\ufffdb", "\xef\xbf", "\xef\xbf\xbd\xbd",
		"a\xe2\x82z", "\xe2\x82\xac", "\xe2\x82", "\xe2", "\xc3\xa9x", "\u00e9\u20ac\U0001f600",
		"\xc0\x80", "\xc1\xbf", "\xe0\x80\x80", "\xe0\x9f\xbf", "\xf0\x80\x80\x80", "\xf0\x8f\xbf\xbf", // too long
		"\xf8\x88\x80\x80\x80", "\xfc\x84\x80\x80\x80\x80", "\xfe", "\xff", // of no row
		"\xed\xa0\x80", "\xed\xad\xbf", "\xed\xae\x80", "\xed\xbf\xbf", "\xed\xa0\xbd\xed\xb8\x80", // d800 to dfff
		"\xf4\x90\x80\x80", "\xf5\x80\x80\x80", "\xf7\xbf\xbf\xbf", // above MaxRune
		"\x80", "\xbf\xbf", "\x80\x80\x80\x80\x80", "a\x80", "\xf0\x9f\x98", "\xf0\x9f\x98\xf0\x9f\x98\x80",
		"\xe2\x82\xe2\x82\xac\xac", "\xf0\x9f\x98\x80\x80\x80\x80\x80", "\xc3\xc3\xa9\xa9",
	}
	for _, w := range rows {
		for _, r := range []rune{w.lo, w.hi} {
			q := sequence(r)
			l = append(l, q, "x"+q+"y", q+q, q[:len(q)-1]+"z", q[1:]+q, q+"\x80", "\xc3"+q)
		}
	}
	return append(l, sequence(0xd7ff), sequence(0xe000), sequence(0xd7ff)+sequence(0xe000))
}

// mixed are texts of runes of all rows, of single bytes and of sequences cut off, the same ones each time.
func mixed(count, long int) []string {
	rnd := rand.New(rand.NewSource(7))
	var l []string
	for range count {
		var b strings.Builder
		for range rnd.Intn(long + 1) {
			w := rows[rnd.Intn(len(rows))]
			q := sequence(w.lo + rune(rnd.Intn(int(w.hi-w.lo)+1)))
			switch rnd.Intn(6) {
			case 0:
				b.WriteByte(byte(rnd.Intn(256)))
			case 1:
				if q != "" {
					b.WriteString(q[:rnd.Intn(len(q))])
				}
			default:
				b.WriteString(q)
			}
		}
		l = append(l, b.String())
	}
	return l
}

// texts are those that nearly every test goes over.
func texts() []string {
	l := named()
	for long := range 4 {
		l = append(l, sharpTexts(long)...)
	}
	return append(l, mixed(200, 40)...)
}
