package text_test

import (
	"bytes"
	"math"
	"math/rand"
	"slices"
	"testing"

	"signetry/api"
	"signetry/text"
)

// P2.1: the first and the last rune of each length, and those beside the gap.
func TestRuneEdges(t *testing.T) {
	for n, want := range map[int]string{
		0: "\x00", 0x7F: "\x7F",
		0x80: "\xC2\x80", 0x7FF: "\xDF\xBF",
		0x800: "\xE0\xA0\x80", 0xD7FF: "\xED\x9F\xBF", 0xE000: "\xEE\x80\x80", 0xFFFD: "\xEF\xBF\xBD", 0xFFFF: "\xEF\xBF\xBF",
		0x10000: "\xF0\x90\x80\x80", 0x10FFFF: "\xF4\x8F\xBF\xBF",
	} {
		if b, e := text.Rune(nil, n); string(b) != want || e != api.OK {
			t.Errorf("Rune(%x): %x, %d", n, b, e)
		}
		if b, e := text.Rune([]byte("a\xff"), n); string(b) != "a\xff"+want || e != api.OK {
			t.Errorf("Rune(%x) behind bytes: %x, %d", n, b, e)
		}
		if l, ok := runesOf([]byte(want)); !ok || !slices.Equal(l, []int{n}) || !text.Valid([]byte(want)) {
			t.Errorf("Runes(%x): %x, %v", want, l, ok)
		}
	}
}

// P2.1: numbers that are no runes, among them such whose lower bits are.
func TestNoRunes(t *testing.T) {
	for _, n := range []int{
		-1, -0x41, math.MinInt, math.MinInt + 0x41, -1 << 32, -1<<32 + 0x41, math.MinInt32,
		0xD800, 0xD801, 0xDBFF, 0xDC00, 0xDFFF,
		0x110000, 0x110041, 0x1FFFFF, 1 << 21, math.MaxInt32, 1 << 31, 1<<31 + 0x41, 1 << 32, 1<<32 + 0x41, math.MaxInt,
	} {
		for _, b := range [][]byte{nil, []byte("ab")} {
			if got, e := text.Rune(b, n); len(got) != 0 || e != api.ErrUtf {
				t.Errorf("Rune(%q, %x): %x, %d", b, n, got, e)
			}
		}
	}
	for n := 0xD800; n <= 0xDFFF; n++ {
		if got, e := text.Rune(nil, n); len(got) != 0 || e != api.ErrUtf {
			t.Fatalf("Rune(%x): %x, %d", n, got, e)
		}
		if l, at, e := text.Runes(encoded(n)); len(l) != 0 || at != 0 || e != api.ErrUtf {
			t.Fatalf("Runes of what would be %x: %x, %d, %d", n, l, at, e)
		}
	}
}

// P2.5: all runes, one by one.
func TestEveryRune(t *testing.T) {
	for n := range 0x110000 {
		if !isRune(n) {
			continue
		}
		b, e := text.Rune(nil, n)
		if e != api.OK || !bytes.Equal(b, encoded(n)) {
			t.Fatalf("Rune(%x): %x, %d", n, b, e)
		}
		l, ok := runesOf(b)
		if !ok || len(l) != 1 || l[0] != n || !text.Valid(b) {
			t.Fatalf("Runes(%x): %x, %v", b, l, ok)
		}
	}
}

// brokenTexts is bytes that are no UTF-8, and where they break off.
var brokenTexts = []struct {
	s  string
	at int
}{
	// Bytes that start no encoding.
	{"\x80", 0}, {"\xBF", 0}, {"\xF8", 0}, {"\xFE", 0}, {"\xFF", 0}, {"a\x80", 1}, {"a\xFFb", 1},
	{"\xF8\x88\x80\x80\x80", 0}, {"\xFC\x84\x80\x80\x80\x80", 0}, {"\xF5\x80\x80\x80", 0},
	// Longer than necessary.
	{"\xC0\x80", 0}, {"\xC0\xAF", 0}, {"\xC1\xBF", 0}, {"a\xC1\x81", 1},
	{"\xE0\x80\x80", 0}, {"\xE0\x81\x81", 0}, {"\xE0\x9F\xBF", 0},
	{"\xF0\x80\x80\x80", 0}, {"\xF0\x82\x82\xAC", 0}, {"\xF0\x8F\xBF\xBF", 0},
	// Cut off, by the end or by another byte.
	{"\xC3", 0}, {"\xE2", 0}, {"\xE2\x82", 0}, {"\xF0", 0}, {"\xF0\x9F", 0}, {"\xF0\x9F\x98", 0},
	{"\xC3\xA4\xC3", 2}, {"A\xE2\x82\xAC\xE2\x82", 4}, {"\xF0\x9F\x98\x80\xF0\x9F\x98", 4},
	{"\xC3a", 0}, {"\xE2\x82a", 0}, {"\xF0\x9F\x98a", 0}, {"\xC3\xC3\xA4", 0}, {"\xE2\x82\xE2\x82\xAC", 0},
	{"\xC3\xA4\xA4", 2}, {"\xE2\x82\xAC\xAC", 3},
	// No runes: D800, DBFF, DC00, DFFF, a pair of them, 110000.
	{"\xED\xA0\x80", 0}, {"\xED\xAF\xBF", 0}, {"\xED\xB0\x80", 0}, {"\xED\xBF\xBF", 0},
	{"\xED\xA0\xBD\xED\xB8\x80", 0}, {"\xF4\x90\x80\x80", 0}, {"\xF7\xBF\xBF\xBF", 0},
	// FFFD itself is a rune; what follows it may be none.
	{"\xEF\xBF\xBD\xFF", 3}, {"\xEF\xBF", 0}, {"\xFF\xEF\xBF\xBD", 0}, {"\xEF\xBF\xBD\xEF\xBF\xBD\xEF", 6},
}

// P2.1: invalid bytes, and the offset of the first error.
func TestBrokenUtf(t *testing.T) {
	for _, c := range brokenTexts {
		l, at, e := text.Runes([]byte(c.s))
		if len(l) != 0 || at != c.at || e != api.ErrUtf || text.Valid([]byte(c.s)) {
			t.Errorf("%x: %x, %d, %d, want %d", c.s, l, at, e, c.at)
		}
	}
}

// P2.1: no bytes are valid, and FFFD is a rune.
func TestValidUtf(t *testing.T) {
	for _, none := range [][]byte{nil, {}} {
		if l, ok := runesOf(none); !ok || len(l) != 0 || !text.Valid(none) {
			t.Errorf("no bytes: %x, %v", l, ok)
		}
	}
	s := []byte("\xEF\xBF\xBD\x00\xEF\xBF\xBD\xF4\x8F\xBF\xBF")
	if l, ok := runesOf(s); !ok || !slices.Equal(l, []int{0xFFFD, 0, 0xFFFD, 0x10FFFF}) || !text.Valid(s) {
		t.Errorf("%x: %x, %v", s, l, ok)
	}
}

// secondReader is Runes by other means: what the bits say must have exactly
// these bytes as its encoding.
func secondReader(b []byte) (l []int, at int, e api.Errno) {
	for at < len(b) {
		size, n := 1, int(b[at])
		for _, lead := range []struct{ from, size int }{{0xC0, 2}, {0xE0, 3}, {0xF0, 4}} {
			if int(b[at]) >= lead.from {
				size, n = lead.size, int(b[at])-lead.from
			}
		}
		if at+size > len(b) {
			return nil, at, api.ErrUtf
		}
		for _, c := range b[at+1 : at+size] {
			n = n*64 + int(c)%64
		}
		if !isRune(n) || !bytes.Equal(encoded(n), b[at:at+size]) {
			return nil, at, api.ErrUtf
		}
		l, at = append(l, n), at+size
	}
	return l, 0, api.OK
}

func agree(t *testing.T, b []byte) {
	t.Helper()
	l, at, e := text.Runes(b)
	wantL, wantAt, wantE := secondReader(b)
	if !slices.Equal(l, wantL) || at != wantAt || e != wantE || text.Valid(b) != (wantE == api.OK) {
		t.Fatalf("Runes(%x): %x, %d, %d, want %x, %d, %d", b, l, at, e, wantL, wantAt, wantE)
	}
}

// P2.1: up to two bytes of all kinds, and up to four of those beside which the
// definition changes.
func TestEveryShortText(t *testing.T) {
	for i := range 256 {
		agree(t, []byte{byte(i)})
		for j := range 256 {
			agree(t, []byte{byte(i), byte(j)})
		}
	}
	everyString("\x00\x7f\x80\x8f\x90\x9f\xa0\xbf\xc0\xc1\xc2\xdf\xe0\xe1\xec\xed\xee\xef\xf0\xf1\xf3\xf4\xf5\xf7\xf8\xff", 4, func(s string) {
		agree(t, []byte(s))
	})
}

// P2.5: runes, encoded one behind the other, are decoded as these, and the
// other way round; changed bytes are read by the definition.
func TestRunesComeBack(t *testing.T) {
	r := rand.New(rand.NewSource(25))
	for range 20000 {
		var l []int
		var all []byte
		for range r.Intn(8) {
			n := anyRune(r)
			next, e := text.Rune(all, n)
			if e != api.OK || !bytes.Equal(next, slices.Concat(all, encoded(n))) {
				t.Fatalf("Rune(%x, %x): %x, %d", all, n, next, e)
			}
			l, all = append(l, n), next
		}
		if got, ok := runesOf(all); !ok || !slices.Equal(got, l) || !text.Valid(all) {
			t.Fatalf("Runes(%x): %x, want %x", all, got, l)
		}
		if len(all) > 0 {
			all[r.Intn(len(all))] = byte(r.Intn(256))
			agree(t, all)
			agree(t, all[:r.Intn(len(all))])
		}
	}
}
