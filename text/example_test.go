package text_test

import (
	"slices"
	"testing"

	"signetry/api"
	"signetry/text"
)

// The examples of the chapter, in its order.
func TestChapterExamples(t *testing.T) {
	for s, want := range map[string]bool{"\xC3\xA4": true, "\xC3": false, "\xC0\x80": false, "\xED\xA0\x80": false} {
		if got := text.Valid([]byte(s)); got != want {
			t.Errorf("Valid(%x) = %v", s, got)
		}
	}
	if l, at, e := text.Runes([]byte("\x41\xE2\x82\xAC")); !slices.Equal(l, []int{0x41, 0x20AC}) || at != 0 || e != api.OK {
		t.Errorf("Runes: %x, %d, %d", l, at, e)
	}
	if b, e := text.Rune(nil, 0x1F600); string(b) != "\xF0\x9F\x98\x80" || e != api.OK {
		t.Errorf("Rune(1F600): %x, %d", b, e)
	}
	if b, e := text.Rune(nil, 0xD800); len(b) != 0 || e != api.ErrUtf {
		t.Errorf("Rune(D800): %x, %d", b, e)
	}
	if !text.IsIdent("a_1") || text.IsIdent("1a") || !text.IsFull("a.b") || text.IsFull("a..b") {
		t.Error(text.IsIdent("a_1"), text.IsIdent("1a"), text.IsFull("a.b"), text.IsFull("a..b"))
	}
	if text.Key("foo_bar_2x") != "fooBar2x" || text.Key("_a__b") != "AB" {
		t.Error(text.Key("foo_bar_2x"), text.Key("_a__b"))
	}
	if got := text.Quote([]byte("\x61\x22\x00\xFF")); got != `"a\"\000\377"` {
		t.Error(got)
	}
	if b, e := text.Unquote(`'a\x4a\101\u20AC'`); string(b) != "aJA\xE2\x82\xAC" || e != api.OK {
		t.Errorf("%q, %d", b, e)
	}
	for _, s := range []string{`"a'`, `"\400"`} {
		if b, e := text.Unquote(s); len(b) != 0 || e != api.ErrQuote {
			t.Errorf("Unquote(%s): %q, %d", s, b, e)
		}
	}
}
