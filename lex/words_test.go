package lex_test

import (
	"fmt"
	"strings"
	"testing"

	"signetry/api"
	"signetry/lex"
)

// P3.1: the end is a token too, without a text, wherever the text ends.
func TestEnd(t *testing.T) {
	splits(t, "", end(0))
	splits(t, " \t\r\n", end(4))
	splits(t, "a", ident(0, "a"), end(1))
	splits(t, "a\n", ident(0, "a"), end(2))
	splits(t, "/**/", end(4))
	splits(t, "//", end(2))
}

// P3.1: a text may have 65536 bytes, whatever they are, and no more.
func TestTextLimit(t *testing.T) {
	const most = api.MaxText
	fill := func(head, part, tail string, size int) string {
		return head + strings.Repeat(part, size-len(head)-len(tail)) + tail
	}
	splits(t, fill("", " ", "", most), end(most))
	splits(t, fill("//", "c", "", most), end(most))
	splits(t, fill("/*", "c", "*/", most), end(most))
	splits(t, fill("a", "\n", ";", most), ident(0, "a"), sign(most-1, ";"), end(most))
	splits(t, fill("'", "v", "'", most), lit(0, strings.Repeat("v", most-2)), end(most))
	if l, at, e := lex.Words(fill("", ";", "", most)); e != api.OK || at != 0 || len(l) != most+1 || l[most] != end(most) {
		t.Errorf("as many signs as there may be: %d tokens, %d, %d", len(l), at, e)
	}
	for _, s := range []string{
		fill("", " ", "", most+1), fill("//", "c", "", most+1), fill("/*", "c", "*/", most+1), fill("'", "v", "'", most+1),
		// The limit comes before all that is wrong in the text.
		fill("#", " ", "", most+1), fill(" 'a", "\n", "", most+1), fill(" /*", "c", "", most+1), fill("", "#", "", most*2),
	} {
		fails(t, s, 0, api.ErrLimit)
	}
	fails(t, fill("", " ", "#", most), most-1, api.ErrWord)
	fails(t, fill(" ", "a", "", most), 1, api.ErrWord)
	fails(t, fill(" '", "v", "", most), 1, api.ErrQuote)
	fails(t, fill(" /*", "*", "", most), 1, api.ErrWord)
	fails(t, fill(" ", "9", "", most), 1, api.ErrRange)
}

// P3.1: which letters, digits and underscores an identifier has, and how many.
func TestIdents(t *testing.T) {
	for _, s := range []string{"a", "z", "A", "Z", "_", "__", "a0", "_9", "a_B_3", "x0x1F", "message", "e5"} {
		splits(t, s, ident(0, s), end(len(s)))
	}
	for _, first := range []string{"a", "Z", "_"} {
		for _, rest := range []string{"b", "9", "_"} {
			s := first + strings.Repeat(rest, api.MaxIdent-1)
			splits(t, " "+s+".", ident(1, s), sign(33, "."), end(34))
			fails(t, " "+s+rest+".", 1, api.ErrWord)
			fails(t, s+rest+strings.Repeat(rest, 100), 0, api.ErrWord)
		}
	}
	splits(t, "a.b c", ident(0, "a"), sign(1, "."), ident(2, "b"), ident(4, "c"), end(5))
	splits(t, "a/**/b", ident(0, "a"), ident(5, "b"), end(6))
	splits(t, "a'b'c", ident(0, "a"), lit(1, "b"), ident(4, "c"), end(5))
}

// P3.1: which sequences that start with a digit are numbers, and which ones.
func TestNumbers(t *testing.T) {
	for s, n := range map[string]int{
		"0": 0, "1": 1, "9": 9, "10": 10, "89": 89, "100": 100, "1234567890": 1234567890,
		"00": 0, "000": 0, "01": 1, "07": 7, "010": 8, "017": 15, "0777": 511, "0010": 8,
		"0x0": 0, "0X0": 0, "0x1F": 31, "0X1f": 31, "0xabcdef": 0xabcdef, "0XABCDEF": 0xabcdef, "0x0123456": 0x123456, "0x789": 0x789, "0x00e1": 0xe1,
		"2147483647": 1<<31 - 1, "2147483648": 1 << 31,
		"017777777777": 1<<31 - 1, "020000000000": 1 << 31, "00020000000000": 1 << 31,
		"0x7fffffff": 1<<31 - 1, "0x80000000": 1 << 31, "0X000080000000": 1 << 31,
		"0" + strings.Repeat("0", 100) + "12": 10, "0x" + strings.Repeat("0", 100) + "12": 18, strings.Repeat("0", 1000): 0,
	} {
		splits(t, s, num(0, s, n), end(len(s)))
		splits(t, "-"+s+";", sign(0, "-"), num(1, s, n), sign(1+len(s), ";"), end(2+len(s)))
	}
	for n := range 5000 {
		for _, layout := range []string{"%d", "0%o", "0x%x", "0X%X"} {
			s := fmt.Sprintf(layout, n)
			splits(t, s, num(0, s, n), end(len(s)))
		}
	}
}

// P3.1: sequences that are no numbers, however great, and numbers too great.
func TestNoNumbers(t *testing.T) {
	for _, s := range []string{
		"08", "09", "018", "0778", "0080", "00a", "0a", "0f", "0_", "00_", "0_0", "0b1", "0o7", "0O7",
		"0x", "0X", "0xg", "0xG", "0x_1", "0x1_", "0x1g", "0x0x1", "0Xx1", "00x1", "1x1", "0xX",
		"1a", "1_", "1_000", "12L", "1e5", "1E5", "1f", "9z", "123456789a", "1a1", "7A7",
		"99999999999999999999a", "2147483649_", "0x100000000g", "0777777777777777777777778", "01" + strings.Repeat("0", 100) + "8",
		strings.Repeat("9", 400) + "x" + strings.Repeat("9", 400),
	} {
		fails(t, s, 0, api.ErrWord)
		fails(t, " a="+s+";", 3, api.ErrWord)
	}
	for _, s := range []string{
		"2147483649", "2147483650", "4294967295", "4294967296", "4294967297", "9223372036854775807", "9223372036854775808", "18446744073709551615", "18446744073709551616", "18446744073709551617",
		"020000000001", "040000000000", "0400000000000000000001", "02000000000000000000001",
		"0x80000001", "0X100000000", "0x100000001", "0x8000000000000000", "0x10000000000000001",
		"1" + strings.Repeat("0", 400), "01" + strings.Repeat("0", 400), "0x1" + strings.Repeat("0", 400), strings.Repeat("9", 400),
	} {
		fails(t, s, 0, api.ErrRange)
		fails(t, " a=-"+s+";", 4, api.ErrRange)
	}
}

// P3.1: a minus and a period are tokens of their own, beside a number too.
func TestMinusAndPeriod(t *testing.T) {
	splits(t, "-1", sign(0, "-"), num(1, "1", 1), end(2))
	splits(t, "--1", sign(0, "-"), sign(1, "-"), num(2, "1", 1), end(3))
	splits(t, "-a", sign(0, "-"), ident(1, "a"), end(2))
	splits(t, "1-2", num(0, "1", 1), sign(1, "-"), num(2, "2", 2), end(3))
	splits(t, "1.5", num(0, "1", 1), sign(1, "."), num(2, "5", 5), end(3))
	splits(t, ".5", sign(0, "."), num(1, "5", 5), end(2))
	splits(t, "5.", num(0, "5", 5), sign(1, "."), end(2))
	splits(t, ".a..b", sign(0, "."), ident(1, "a"), sign(2, "."), sign(3, "."), ident(4, "b"), end(5))
	fails(t, "1.08", 2, api.ErrWord)
}

// P3.1: each byte, alone and behind a token, and what it starts.
func TestEveryByte(t *testing.T) {
	for i := range 256 {
		c := string([]byte{byte(i)})
		at := func(w api.Word) {
			splits(t, c, w, end(1))
			w.At = 2
			splits(t, ". "+c, sign(0, "."), w, end(3))
		}
		switch {
		case c == " " || c == "\t" || c == "\r" || c == "\n":
			splits(t, c, end(1))
			splits(t, ". "+c, sign(0, "."), end(3))
		case i >= 'a' && i <= 'z' || i >= 'A' && i <= 'Z' || c == "_":
			at(ident(0, c))
		case i >= '0' && i <= '9':
			at(num(0, c, i-'0'))
		case strings.Contains("{}[]()<>=;,.-", c):
			at(sign(0, c))
		case c == "'" || c == `"`:
			fails(t, c, 0, api.ErrQuote)
			fails(t, ". "+c, 2, api.ErrQuote)
		default:
			fails(t, c, 0, api.ErrWord)
			fails(t, ". "+c, 2, api.ErrWord)
			fails(t, "a"+c+"b", 1, api.ErrWord)
			splits(t, "/*"+c+"*///"+c, end(8))
		}
	}
	fails(t, "\xEF\xBB\xBFa", 0, api.ErrWord)
	fails(t, "a\xC3\xA4", 1, api.ErrWord)
}

// P3.1: literals with both quotes, and where they end.
func TestLiterals(t *testing.T) {
	for s, value := range map[string]string{
		`""`: "", `''`: "", `"a"`: "a", `'a'`: "a", `"'"`: "'", `'"'`: `"`, `"a'b'"`: "a'b'",
		`"\""`: `"`, `'\''`: "'", `"\'"`: "'", `'a\'b'`: "a'b", `"\\"`: `\`, `'\\'`: `\`, `'\\\''`: `\'`, `"\\\\"`: `\\`,
		`'c\n'`: "c\n", `'\x4a\101\u20AC'`: "JA\xE2\x82\xAC", `"//"`: "//", `"/* "`: "/* ", `'#'`: "#", `' a  b '`: " a  b ",
		"'\x7f\x80\xff'": "\x7f\x80\xff", `"\0"`: "\x00", `'\12'`: "\n", `"\x22"`: `"`,
	} {
		splits(t, s, lit(0, value), end(len(s)))
		splits(t, "="+s+";", sign(0, "="), lit(1, value), sign(1+len(s), ";"), end(2+len(s)))
		splits(t, s+s+"a", lit(0, value), lit(len(s), value), ident(2*len(s), "a"), end(2*len(s)+1))
	}
}

// P3.1: literals that are not terminated on their line, or are not valid.
func TestNoLiterals(t *testing.T) {
	for _, s := range []string{
		// The end comes first.
		`'`, `"`, `'a`, `"a`, `"a'`, `'a"`, `'\`, `'\'`, `"\"`, `'a\'`, `'\\\'`, `"a\\\"`,
		// A line feed comes first.
		"'\n'", "\"\n\"", "'a\n'", "'a\nb'", "'\\\n'", "\"\\\n\"", "'a\\\nb'", "'\n", "'a\r\n'", "'\\'\n'", "'a\n\n'",
		// Terminated, but no literal.
		`'\q'`, `'\8'`, `"\400"`, `'\x'`, `'\xg'`, `'\u12'`, `'\u12G4'`, `'\uD800'`, `'\U00110000'`, `'\U0000004'`, `"\ "`,
		"'\t'", "'\r'", "'\x00'", "'a\x1f'", "'\\\t'",
	} {
		fails(t, s, 0, api.ErrQuote)
		fails(t, ";\n"+s, 2, api.ErrQuote)
		fails(t, s+"\n'a'", 0, api.ErrQuote)
		fails(t, s+"\n#", 0, api.ErrQuote)
	}
}

// P3.1: comments of both kinds, and where they end.
func TestComments(t *testing.T) {
	for _, s := range []string{
		"//", "// c", "///", "//*", "//* */", "// \r c", "// '", "// #\xff", "//\\", "// a // b",
		"/**/", "/***/", "/****/", "/* c */", "/* * */", "/* / */", "/*/*/", "/*//*/", "/* // */", "/* /* */", "/* \n\r\n */", "/*'*/", "/*#\x00\xff*/", "/*\\*/",
	} {
		splits(t, s, end(len(s)))
		splits(t, "a"+s, ident(0, "a"), end(1+len(s)))
		splits(t, s+"\nb", ident(len(s)+1, "b"), end(len(s)+2))
		splits(t, "a"+s+"\nb", ident(0, "a"), ident(len(s)+2, "b"), end(len(s)+3))
		splits(t, s+"\n"+s, end(2*len(s)+1))
	}
	splits(t, "// a\n// b\nc", ident(10, "c"), end(11))
	splits(t, "// a\rb\nc", ident(7, "c"), end(8))
	splits(t, "/* a */b/* c */", ident(7, "b"), end(15))
	splits(t, "'//'// '", lit(0, "//"), end(8))
	fails(t, "/* /* */ */", 9, api.ErrWord)
	fails(t, "/*/ /*/ /", 8, api.ErrWord)
	fails(t, "/**/*/", 4, api.ErrWord)
	fails(t, "/***/*", 5, api.ErrWord)
	fails(t, "// a\n/ b", 5, api.ErrWord)
}

// P3.1: comments that are not terminated, and slashes that start none.
func TestNoComments(t *testing.T) {
	for _, s := range []string{
		"/*", "/*/", "/* a", "/* *", "/***", "/* * /", "/*\n", "/* //", "/* '*'/", "/*/ /",
		"/", "/ /", "/ *", "/a", "/'a'", "/\n/", "*", "*/", "*/ /*",
	} {
		fails(t, s, 0, api.ErrWord)
		fails(t, "a "+s, 2, api.ErrWord)
		fails(t, "/**/"+s, 4, api.ErrWord)
		fails(t, "//\n"+s, 3, api.ErrWord)
	}
	fails(t, "/*'", 0, api.ErrWord)
	fails(t, "/*#", 0, api.ErrWord)
}

// P3.1: of several errors the first one in the text counts, whichever it is.
func TestFirstError(t *testing.T) {
	wrong := []struct {
		s string
		e api.Errno
	}{
		{"#", api.ErrWord}, {"08", api.ErrWord}, {"1a", api.ErrWord}, {"2147483649", api.ErrRange}, {"0x80000001", api.ErrRange},
		{"'\n", api.ErrQuote}, {`"\q"`, api.ErrQuote}, {strings.Repeat("a", 33), api.ErrWord}, {"/", api.ErrWord},
	}
	for _, first := range wrong {
		for _, second := range wrong {
			fails(t, "ok "+first.s+" "+second.s, 3, first.e)
			fails(t, "ok "+first.s+" /*", 3, first.e)
			fails(t, "ok "+first.s+" '", 3, first.e)
		}
		fails(t, "/* "+first.s, 0, api.ErrWord)
		splits(t, "ok/*"+first.s+"*/", ident(0, "ok"), end(6+len(first.s)))
	}
	fails(t, "a;\n'b\n#", 3, api.ErrQuote)
	fails(t, "'# 08 /*' #", 10, api.ErrWord)
	fails(t, "// # 08 '\n2147483649 #", 10, api.ErrRange)
}
