package text_test

import (
	"bytes"
	"math/rand"
	"slices"

	"signetry/text"
)

// isRune is the chapter's definition of a rune.
func isRune(n int) bool {
	return n >= 0 && n <= 0x10FFFF && !(n >= 0xD800 && n <= 0xDFFF)
}

// encoded is the chapter's definition of an encoding, in arithmetic.
func encoded(n int) []byte {
	low := func(shift int) byte { return byte(0x80 + n>>shift%64) }
	switch {
	case n < 0x80:
		return []byte{byte(n)}
	case n < 0x800:
		return []byte{byte(0xC0 + n>>6), low(0)}
	case n < 0x10000:
		return []byte{byte(0xE0 + n>>12), low(6), low(0)}
	}
	return []byte{byte(0xF0 + n>>18), low(12), low(6), low(0)}
}

// anyRune is a rune whose encoding has any of the four lengths.
func anyRune(r *rand.Rand) int {
	for {
		n := r.Intn([]int{0x80, 0x800, 0x10000, 0x110000}[r.Intn(4)])
		if isRune(n) {
			return n
		}
	}
}

func anyBytes(r *rand.Rand, size int) []byte {
	b := make([]byte, size)
	r.Read(b)
	return b
}

// anyString is made of the characters that mean something to this layer, and
// of some others.
func anyString(r *rand.Rand, size int) string {
	const some = "ab_zZ09.\"'\\xXuUnr?d78\x00\n\x1f\x20\x7f\x80\xc3\xa4\xff"
	b := make([]byte, size)
	for i := range b {
		b[i] = some[r.Intn(len(some))]
	}
	return string(b)
}

// everyString calls f for all strings of up to that many of the characters.
func everyString(characters string, size int, f func(s string)) {
	var next func(s []byte)
	next = func(s []byte) {
		f(string(s))
		if len(s) == size {
			return
		}
		for i := range len(characters) {
			next(append(s, characters[i]))
		}
	}
	next(make([]byte, 0, size))
}

// runesOf is the runes of bytes that must be valid, in the tests' own words.
func runesOf(b []byte) ([]int, bool) {
	l, at, e := text.Runes(b)
	return l, e == 0 && at == 0
}

// roomy is b with spare capacity behind it, all of whose bytes are known.
func roomy(b []byte) []byte {
	all := append(slices.Clone(b), bytes.Repeat([]byte{0xee}, 32)...)
	return all[:len(b)]
}

// untouched tells whether roomy(b) is still what it was.
func untouched(got, b []byte) bool {
	return bytes.Equal(got, b) && bytes.Equal(got[len(b):len(b)+32], bytes.Repeat([]byte{0xee}, 32))
}

// scribble overwrites a list and all of its capacity.
func scribble(l []byte) {
	l = l[:cap(l)]
	for i := range l {
		l[i] = 0x55
	}
}
