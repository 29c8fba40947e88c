package jtree_test

import (
	"fmt"
	"slices"
	"strings"
	"testing"

	"signetry/api"
	"signetry/jtree"
)

// spells checks what the inside of a string is read as, alone, as a key, and between
// other things.
func spells(t *testing.T, inside, want string) {
	t.Helper()
	reads(t, `"`+inside+`"`, str(want))
	reads(t, ` "`+inside+`" `, str(want))
	reads(t, `"x`+inside+`y"`, str("x"+want+"y"))
	reads(t, `"`+inside+inside+`"`, str(want+want))
	reads(t, `["`+inside+`","`+inside+`"]`, list(str(want), str(want)))
	reads(t, `{"`+inside+`":"`+inside+`"}`, obj(want, str(want)))
	reads(t, `{"":null,"`+inside+`1":null}`, obj("", null(), want+"1", null()))
}

// misspells checks that the inside of a string is none, which is told at its start,
// whatever follows.
func misspells(t *testing.T, inside string) {
	t.Helper()
	for _, rest := range []string{`"`, ``, `x`, `x"`, ` `, `\`, `\"`, `"]`, "\"\x00", `\n`, `\u`} {
		misspelt(t, inside+rest)
	}
}

// misspelt checks what is told at the start of a string.
func misspelt(t *testing.T, rest string) {
	t.Helper()
	for _, start := range []string{``, ` `, `[`, `[1, `, `["a",`, `{"a":`, `{`, `{ `, `{"a":1,`, `{"a":1, `} {
		refuses(t, start+`"`+rest, len(start), api.ErrJson)
		refuses(t, start+`"abc`+rest, len(start), api.ErrJson)
		refuses(t, start+`"\n\ud83d\ude00`+rest, len(start), api.ErrJson)
	}
}

// unfinished checks that a string is not terminated, which is told at the end.
func unfinished(t *testing.T, rest string) {
	t.Helper()
	for _, start := range []string{``, ` `, `[`, `[1, `, `{"a":`, `{`, `{"a":1, `} {
		for _, s := range []string{start + `"` + rest, start + `"abc` + rest} {
			refuses(t, s, len(s), api.ErrJson)
		}
	}
}

// P14.2: each escape of one character, and what is none.
func TestEscapes(t *testing.T) {
	known := map[string]string{`"`: "\"", `\`: "\\", `/`: "/", `b`: "\x08", `f`: "\x0c", `n`: "\x0a", `r`: "\x0d", `t`: "\x09"}
	for i := range 256 {
		c := string([]byte{byte(i)})
		want, ok := known[c]
		switch {
		case ok:
			spells(t, `\`+c, want)
			unfinished(t, `\`+c)
		case c == "u":
		default:
			misspells(t, `\`+c)
		}
	}
	for _, c := range []string{"ä", "\u2028", "\U0001f600", "u", "x41", "101", "0", "'", "a", "v", "B", "N", "U00000041", "\n"} {
		misspells(t, `\`+c)
	}
	spells(t, `\\n`, `\n`)
	spells(t, `\\\n`, "\\\n")
	spells(t, `\\u0041`, `\u0041`)
	spells(t, `\/\/`, `//`)
	spells(t, `/`, `/`)
}

// P14.2: each byte in a string.
func TestEachByte(t *testing.T) {
	for i := range 256 {
		c := string([]byte{byte(i)})
		switch {
		case c == `"` || c == `\`:
		case i < 0x20:
			misspells(t, c)
		case i < 0x80:
			spells(t, c, c)
			unfinished(t, c)
		default:
			misspelt(t, c+`"`)
			unfinished(t, c)
		}
	}
}

// P14.2: four digits in lower and upper case.
func TestDigits(t *testing.T) {
	for n := range 0x10000 {
		if n > 0x300 && n%11 != 0 && n < 0xd700 || n > 0xe100 && n%11 != 0 && n < 0xff00 {
			continue
		}
		for _, layout := range []string{`"\u%04x"`, `"\u%04X"`} {
			s := fmt.Sprintf(layout, n)
			if n >= 0xd800 && n <= 0xdfff {
				refuses(t, s, 0, api.ErrJson)
			} else {
				reads(t, s, str(string(rune(n))))
			}
		}
	}
	for inside, want := range map[string]string{
		`\u0041`: "A", `\u00410`: "A0", `\u00e4`: "ä", `\u00E4`: "ä", `\u00Ff`: "ÿ", `\uabCD`: "\uabcd", `\u0000`: "\x00", `\u001f`: "\x1f", `\u0022`: `"`, `\u005c`: `\`, `\u005Cn`: `\n`, `\u005cu0041`: `\u0041`,
		`\ud7ff`: "\ud7ff", `\uE000`: "\ue000", `\ufffd`: "\ufffd", `\uFFFF`: "\uffff", `\u0041\u0042`: "AB", `\u20ac\n`: "€\n", `\ufeff`: "\ufeff",
	} {
		spells(t, inside, want)
		unfinished(t, inside)
	}
	for i := range 256 {
		c := string([]byte{byte(i)})
		if strings.Contains("0123456789abcdefABCDEF", c) {
			continue
		}
		for at := range 4 {
			misspells(t, `\u`+"0041"[:at]+c+"0041"[at+1:])
			misspells(t, `\u`+"0041"[:at]+c)
		}
	}
	for _, s := range []string{`\u+041`, `\u-041`, `\u 041`, `\u0x41`, `\u0_41`, `\u{41}`, `\U0041`, `\u004`, `\u00`, `\u0`, `\u`, `\uu0041`, `\u\u0041`, `\u00é`} {
		misspelt(t, s+`"`)
	}
}

// P14.2: surrogates in pairs.
func TestPairs(t *testing.T) {
	for _, high := range []int{0xd800, 0xd801, 0xd83d, 0xdb7f, 0xdb80, 0xdbfe, 0xdbff} {
		for _, low := range []int{0xdc00, 0xdc01, 0xde00, 0xdffe, 0xdfff} {
			want := string(rune(0x10000 + (high-0xd800)*0x400 + low - 0xdc00))
			for _, layout := range []string{`\u%04x\u%04x`, `\u%04X\u%04X`, `\u%04x\u%04X`} {
				spells(t, fmt.Sprintf(layout, high, low), want)
				unfinished(t, fmt.Sprintf(layout, high, low))
				misspells(t, fmt.Sprintf(layout, low, high))
				misspells(t, fmt.Sprintf(layout, high, high))
				misspells(t, fmt.Sprintf(layout, low, low))
				misspells(t, fmt.Sprintf(layout, high, low)+fmt.Sprintf(`\u%04x`, low))
				misspells(t, fmt.Sprintf(layout, high, high)+fmt.Sprintf(`\u%04x`, low))
				misspelt(t, fmt.Sprintf(layout, high, low)+fmt.Sprintf(`\u%04x`, high))
			}
		}
	}
	spells(t, `\uD83D\ude00\ud83d\uDE01`, "\U0001f600\U0001f601")
	spells(t, `\ud800\udc00`, "\U00010000")
	spells(t, `\udbff\udfff`, "\U0010ffff")
}

// P14.2: surrogates that are in no pair, and what is behind them.
func TestLoneSurrogates(t *testing.T) {
	for n := 0xd800; n <= 0xdfff; n += 0x3f {
		s := fmt.Sprintf(`\u%04x`, n)
		for _, rest := range []string{
			`"`, ``, `\`, `\"`, `\\`, `\n`, `\u`, `\u"`, `\ud`, `\ude`, `\ude0`, `\ude0"`, `\u0041`, `\u0041"`, `\ud7ff"`, `\ue000"`, `\ud83d"`, `\ud83d\ude00"`, `\x`, `x"`, ` \ude00"`, `x\ude00"`, `\\ude00"`, `\n\ude00"`, `\Ude00"`, `ude00"`, `/ude00"`, "\x00", "\xff\"", "ä\"", `\uzzzz"`, `\udezz"`, `\u+e00"`,
		} {
			misspelt(t, s+rest)
		}
		if n >= 0xdc00 {
			misspelt(t, s+`\ude00"`)
		}
	}
	// The first ones and the last ones of both halves.
	for _, s := range []string{`\ud800`, `\udbff`, `\udc00`, `\udfff`, `\uD800`, `\uDBFF`, `\uDC00`, `\uDFFF`} {
		misspells(t, s+`a`)
		misspells(t, `a`+s+`\ud7ff`)
		misspells(t, s+`\ue000`)
		misspells(t, s+`\udbff`)
	}
	// Halves that are encoded as bytes are no UTF-8.
	misspelt(t, "\xed\xa0\xbd\xed\xb8\x80\"")
	misspelt(t, `\ud83d`+"\xed\xb8\x80\"")
}

// P14.2: strings that are cut off at each place.
func TestCutStrings(t *testing.T) {
	for _, escape := range []string{`\n`, `\"`, `\\`, `\/`, `\u0041`, `\u00E4`, `\ud83d\ude00`} {
		whole := `"ab` + escape + `cd` + escape + `"`
		for _, start := range []string{"", " ", "[1,", `{"a":`, "{"} {
			for size := 1; size < len(whole); size++ {
				s := start + whole[:size]
				// A string that is cut off in an escape is wrong, but not just behind a \.
				inEscape := false
				for _, at := range []int{3, 5 + len(escape)} {
					inEscape = inEscape || size > at && size < at+len(escape)
					if size == at+1 {
						inEscape = false
					}
				}
				if inEscape {
					refuses(t, s, len(start), api.ErrJson)
				} else {
					refuses(t, s, len(s), api.ErrJson)
				}
			}
		}
	}
	unfinished(t, ``)
	unfinished(t, `\`)
	unfinished(t, `\\`)
	unfinished(t, `\\\`)
	unfinished(t, `\"`)
	unfinished(t, "\xff")
	unfinished(t, "\xc3")
	unfinished(t, "\xff\\")
	unfinished(t, `\u0041\`)
	unfinished(t, `\ud83d\ude00\`)
	for _, s := range []string{`\u`, `\u0`, `\u00`, `\u004`, `\ud83`, `\ud83d`, `\ud83d\`, `\ud83d\u`, `\ud83d\ud`, `\ud83d\ude`, `\ud83d\ude0`, `\ude00`, `\ude00\`, `\ude00x`, `\x`, `\x\`, "\x1f", "\x1f\\", "\xff\x00", "\xff\\x", `\ud83d x\`} {
		misspelt(t, s)
	}
}

// P14.2: strings that are not UTF-8.
func TestUtf(t *testing.T) {
	for _, s := range utf {
		spells(t, inQuotes.Replace(s), s)
	}
	for _, s := range notUtf {
		for _, rest := range []string{`"`, `"]`, `" x`, `":1}`, `x"`, `"` + "\x00"} {
			misspelt(t, s+rest)
		}
		misspelt(t, s+"\x00\"")
		misspelt(t, s+`\x"`)
		unfinished(t, s)
	}
	// Bytes and escapes do not complete each other.
	for _, s := range []string{"\xc3\\u00a4", "\xc3\\n", "\\u00c3\xa4", "\xf0\x9f\\u0098\\u0080", "\xc3\\\"\xa4"} {
		misspelt(t, s+`"`)
	}
}

// P14.2: keys that exist already, however they are written.
func TestDoubleKeys(t *testing.T) {
	for _, c := range []struct{ first, second string }{
		{`a`, `a`}, {``, ``}, {`a`, `\u0061`}, {`\u0061`, `a`}, {`\n`, `\u000a`}, {`/`, `\/`}, {`😀`, `\ud83d\ude00`}, {`\"`, `\u0022`}, {`ä`, `\u00e4`}, {`\u00E4`, `\u00e4`},
	} {
		for _, rest := range []string{``, ` `, `:`, `:2`, `:2}`, `:x`, `x`, `}`, `:"` + "\x00", `,`} {
			for _, between := range []string{`:1,`, ` : 1 , `, `:{"` + c.first + `":[]},`, `:1,"other":[{"` + c.second + `":1}],`} {
				for _, start := range []string{`{`, `[{"a":1},{`, `{"":{ `, `{"x":1,"x2":{`} {
					s := start + `"` + c.first + `"` + between
					refuses(t, s+`"`+c.second+`"`+rest, len(s), api.ErrJson)
				}
			}
		}
		reads(t, `[{"`+c.first+`":1},{"`+c.second+`":1}]`, list(like(t, c.first), like(t, c.second)))
	}
	// A key is compared when it has ended.
	breaks(t, `{"a":1,"a^`)
	breaks(t, `{"a":1,"a\^`)
	refuses(t, `{"a":1,"a"`, 7, api.ErrJson)
	breaks(t, `{"a":1,"b":{"a":2},"aa":3,"A":4,"":5,"c"^1}`)
	reads(t, `{"a":{"a":{"a":1}},"b":{"a":1}}`, obj("a", obj("a", obj("a", num("1"))), "b", obj("a", num("1"))))
	// As many keys as there may be.
	var parts []string
	for i := range 3999 {
		parts = append(parts, fmt.Sprintf(`"%d":0`, i))
	}
	whole := "{" + strings.Join(parts, ",") + "}"
	reads(t, whole, keyed(times(3999, num("0"))...))
	for _, i := range []int{0, 1, 2000, 3997} {
		l := slices.Clone(parts)
		l[3998] = l[i]
		refuses(t, "{"+strings.Join(l, ",")+"}", strings.LastIndex(whole, ",")+1, api.ErrJson)
	}
}

// like is an object that has 1 beside a key, which is read alone.
func like(t *testing.T, key string) jtree.Node {
	t.Helper()
	n, _, e := jtree.Parse(`"` + key + `"`)
	if e != api.OK {
		t.Fatalf("%q: %d", key, e)
	}
	return obj(n.S, num("1"))
}
