package jtree_test

import (
	"fmt"
	"strings"
	"testing"

	"signetry/api"
	"signetry/jtree"
)

// P14.1: the text of each kind of node.
func TestTexts(t *testing.T) {
	for s, n := range map[string]jtree.Node{
		`null`: null(), `false`: no(), `true`: yes(), `0`: num("0"), `-0`: num("-0"), `-12`: num("-12"), `""`: str(""), `"a b"`: str("a b"),
		`[]`: list(), `[null]`: list(null()), `[null,null]`: list(null(), null()), `[1,[2,[]],3]`: list(num("1"), list(num("2"), list()), num("3")),
		`{}`: obj(), `{"":{}}`: obj("", obj()), `{"a":1}`: obj("a", num("1")), `{"b":[],"a":{"b":true}}`: obj("b", list(), "a", obj("b", yes())),
		`[{},{"a":"a"},[[]],false]`: list(obj(), obj("a", str("a")), list(list()), no()), `{"[,]":"{:}"}`: obj("[,]", str("{:}")), `{"null":null}`: obj("null", null()),
	} {
		writes(t, n, s)
	}
	if s, e := jtree.Text(jtree.Node{Kind: jtree.KObj, Keys: []string{}, L: []jtree.Node{}}); s != "{}" || e != api.OK {
		t.Errorf("%q, %d", s, e)
	}
}

// P14.1: each byte in a string, and in a key.
func TestBytesInStrings(t *testing.T) {
	short := map[byte]string{'"': `\"`, '\\': `\\`, 8: `\b`, 12: `\f`, 10: `\n`, 13: `\r`, 9: `\t`}
	for i := range 0x80 {
		c := byte(i)
		part := string([]byte{c})
		if c < 0x20 {
			part = fmt.Sprintf(`\u00%02x`, c)
		}
		if s, ok := short[c]; ok {
			part = s
		}
		s := string([]byte{c})
		writes(t, str(s), `"`+part+`"`)
		writes(t, str("x"+s+s+"y"), `"x`+part+part+`y"`)
		writes(t, obj(s, str(s)), `{"`+part+`":"`+part+`"}`)
	}
	writes(t, str("\u001a\u001f\u0010\u000b\u0000"), `"\u001a\u001f\u0010\u000b\u0000"`)
	for _, s := range []string{"\u0080", "\u009f", "ä", "\u2028\u2029", "\ufeff", "\ufffd", "\uffff", "\U0001f600", "\U0010ffff", "<>&'/", "\x7f"} {
		writes(t, str(s), `"`+s+`"`)
		writes(t, obj(s, null()), `{"`+s+`":null}`)
	}
}

// P14.1: great nodes, of up to as many nodes as there may be, and as deep.
func TestGreatTexts(t *testing.T) {
	writes(t, list(times(3999, num("1"))...), "["+strings.Repeat("1,", 3998)+"1]")
	writes(t, around(yes(), 59), strings.Repeat("[", 59)+"true"+strings.Repeat("]", 59))
	writes(t, inside(list(), 59), strings.Repeat(`{"k":`, 59)+"[]"+strings.Repeat("}", 59))
}

// P14.1: a text may be longer than any that is parsed.
func TestLongTexts(t *testing.T) {
	for _, count := range []int{1<<20 - 2, 1<<20 - 1, 1 << 20, 1 << 21} {
		s := strings.Repeat("x", count)
		got, e := jtree.Text(str(s))
		if got != `"`+s+`"` || e != api.OK {
			t.Errorf("%d bytes, %d", len(got), e)
		}
		if count == 1<<20-2 {
			reads(t, got, str(s))
		} else {
			refuses(t, got, 0, api.ErrLimit)
		}
	}
	got, e := jtree.Text(list(times(3999, str(strings.Repeat("\x01", 1000)))...))
	if want := "[" + strings.Repeat(`"`+strings.Repeat(`\u0001`, 1000)+`",`, 3998) + `"` + strings.Repeat(`\u0001`, 1000) + `"]`; got != want || e != api.OK {
		t.Errorf("%d bytes, %d", len(got), e)
	}
}
