package text_test

import (
	"bytes"
	"fmt"
	"math/rand"
	"regexp"
	"strconv"
	"strings"
	"testing"

	"signetry/api"
	"signetry/text"
)

// reads checks the value of a literal.
func reads(t *testing.T, s, want string) {
	t.Helper()
	if b, e := text.Unquote(s); e != api.OK || string(b) != want {
		t.Errorf("Unquote(%q): %q, %d, want %q", s, b, e, want)
	}
}

// isNone checks that a string is not exactly one literal.
func isNone(t *testing.T, s string) {
	t.Helper()
	if b, e := text.Unquote(s); e != api.ErrQuote || len(b) != 0 {
		t.Errorf("Unquote(%q): %q, %d", s, b, e)
	}
}

// inQuotes calls f with a literal of parts, for both quotes.
func inQuotes(parts string, f func(s string)) {
	f(`"` + parts + `"`)
	f(`'` + parts + `'`)
}

// P2.3: each character after a backslash, alone and before something else.
func TestEscapes(t *testing.T) {
	simple := map[byte]string{
		'a': "\x07", 'b': "\x08", 'f': "\x0C", 'n': "\x0A", 'r': "\x0D", 't': "\x09", 'v': "\x0B",
		'\\': "\\", '\'': "'", '"': "\"", '?': "?",
	}
	for c := byte('0'); c <= '7'; c++ {
		simple[c] = string([]byte{c - '0'})
	}
	for i := range 256 {
		part := string([]byte{'\\', byte(i)})
		want, ok := simple[byte(i)]
		inQuotes(part, func(s string) {
			if ok {
				reads(t, s, want)
			} else {
				isNone(t, s)
			}
		})
		inQuotes("y"+part+"z"+part, func(s string) {
			if ok {
				reads(t, s, "y"+want+"z"+want)
			} else {
				isNone(t, s)
			}
		})
	}
}

// P2.3: octal digits, as many as there are, up to three, and up to 255.
func TestOctal(t *testing.T) {
	for n := range 512 {
		for width := 1; width <= 3; width++ {
			s := fmt.Sprintf("\\%0*o", width, n)
			inQuotes(s, func(s string) {
				if n > 255 {
					isNone(t, s)
				} else {
					reads(t, s, string([]byte{byte(n)}))
				}
			})
		}
	}
	for parts, want := range map[string]string{
		`\0`: "\x00", `\00`: "\x00", `\000`: "\x00", `\0000`: "\x000", `\08`: "\x008", `\18`: "\x018", `\129`: "\x0a9",
		`\1234`: "S4", `\377`: "\xff", `\3777`: "\xff7", `\47`: "'", `\42`: "\"", `\134`: "\\", `\1a`: "\x01a",
		`\77`: "?", `\1\2`: "\x01\x02", `\7 7`: "\x07 7", `\134n`: "\\n",
	} {
		inQuotes(parts, func(s string) { reads(t, s, want) })
	}
	for _, parts := range []string{`\400`, `\4000`, `\477`, `\777`, `a\400b`, `\8`, `\9`, `\-1`, `\ 1`} {
		inQuotes(parts, func(s string) { isNone(t, s) })
	}
}

// P2.3: hexadecimal digits, one or two.
func TestHex(t *testing.T) {
	for n := range 256 {
		for _, layout := range []string{`\x%02x`, `\X%02x`, `\x%02X`, `\X%02X`, `\x%x`, `\X%X`} {
			inQuotes(fmt.Sprintf(layout, n), func(s string) { reads(t, s, string([]byte{byte(n)})) })
		}
	}
	for parts, want := range map[string]string{
		`\x4`: "\x04", `\x4g`: "\x04g", `\x4a1`: "J1", `\xfF`: "\xff", `\xFff`: "\xfff", `\x0g`: "\x00g", `\x4\x4`: "\x04\x04",
		`\x22`: "\"", `\x27`: "'", `\x5c`: "\\", `\x0a`: "\n", `\xaG`: "\nG", `\x4 1`: "\x04 1", `\xA@`: "\n@", `\x9:`: "\t:", "\\xa`": "\n`",
	} {
		inQuotes(parts, func(s string) { reads(t, s, want) })
	}
	for _, parts := range []string{`\x`, `\X`, `\xg`, `\xG0`, `\x x`, `\x\x41`, `\x-1`, `\x+1`, `\x/0`, `\x:0`, `\x@0`, "\\x`0", `\x{41}`} {
		inQuotes(parts, func(s string) { isNone(t, s) })
	}
}

// P2.3: runes by four and by eight hexadecimal digits.
func TestRuneEscapes(t *testing.T) {
	for _, n := range []int{0, 0xA, 0x22, 0x27, 0x41, 0x5C, 0x7F, 0x80, 0x7FF, 0x800, 0x20AC, 0xABCD, 0xD7FF, 0xE000, 0xFFFD, 0xFFFF} {
		for _, layout := range []string{`\u%04x`, `\u%04X`, `\U%08x`, `\U%08X`} {
			inQuotes(fmt.Sprintf(layout, n), func(s string) { reads(t, s, string(encoded(n))) })
		}
	}
	for _, n := range []int{0x10000, 0x1F600, 0x10FFFF} {
		inQuotes(fmt.Sprintf(`\U%08x`, n), func(s string) { reads(t, s, string(encoded(n))) })
	}
	for parts, want := range map[string]string{
		`\u00411`: "A1", `\u0041\u0042`: "AB", `\U000000411`: "A1", `x\u00e4y`: "x\u00e4y", `\u1F600`: "\u1F600",
		`\u0000`: "\x00", `\u00ff`: "\xc3\xbf", `\U000000ff`: "\xc3\xbf",
	} {
		inQuotes(parts, func(s string) { reads(t, s, want) })
	}
	for _, parts := range []string{
		`\u`, `\u0`, `\u00`, `\u004`, `\u004g`, `\ug041`, `\u 041`, `\u{41}`, `\u+041`, `\u\u0041`, `\u004\u0041`,
		`\uD800`, `\uDBFF`, `\uDC00`, `\uDFFF`, `\uD83D\uDE00`, `\U0000D800`, `\U0000DFFF`,
		`\U`, `\U0000004`, `\U0041`, `\U0000004g`, `\U00110000`, `\U7FFFFFFF`, `\U80000000`, `\U80000041`, `\UFFFFFFFF`, `\UFFFFFFFFF`, `\U00200041`,
	} {
		inQuotes(parts, func(s string) { isNone(t, s) })
		inQuotes("ab"+parts, func(s string) { isNone(t, s) })
	}
	for n := 0xD800; n <= 0xDFFF; n++ {
		isNone(t, fmt.Sprintf(`"\u%04x"`, n))
		isNone(t, fmt.Sprintf(`"\U%08x"`, n))
	}
}

// P2.3: each byte that stands for itself, and each that does not.
func TestPlainBytes(t *testing.T) {
	for i := range 256 {
		c := string([]byte{byte(i)})
		for _, quote := range []string{`"`, `'`} {
			for _, parts := range []string{c, c + c, "y" + c, c + "y", "y" + c + "z"} {
				s := quote + parts + quote
				switch {
				case i < 0x20 || c == quote || c == `\` && parts != `\\`:
					isNone(t, s)
				case c == `\`:
					reads(t, s, `\`)
				default:
					reads(t, s, parts)
				}
			}
		}
	}
}

// P2.3: a literal has the same quote on both sides, and nothing beside it.
func TestQuotes(t *testing.T) {
	for s, want := range map[string]string{
		`""`: "", `''`: "", `"a"`: "a", `'a'`: "a", `"'"`: "'", `'"'`: `"`, `"\""`: `"`, `'\''`: "'", `"\'"`: "'", `'\"'`: `"`,
		`"\\"`: `\`, `"\\\""`: `\"`, `"a'b'c"`: "a'b'c", `" "`: " ", `"//"`: "//",
	} {
		reads(t, s, want)
	}
	for _, s := range []string{
		``, `"`, `'`, `a`, `aa`, `aba`, `"a`, `a"`, `'a`, `a'`, `"a'`, `'a"`, `"'`, `'"`, `"""`, `'''`, `""""`, `"a""b"`, `"a"b"`, `"" ""`,
		` ""`, `"" `, `""x`, `x""`, "\"\"\n", `"\"`, `'\'`, `"\`, `\"`, `\"\"`, `"\\\"`, `"a\"`, "\"a\n\"", "\"a\nb\"", "`a`", `\\`,
		"\"\x00\"", "\"\t\"", "\u201ca\u201d", `"\"'`, `"a\x"`, `"a\u004"`, `"\` + "\n" + `"`, `"\` + "\x00" + `"`,
	} {
		isNone(t, s)
	}
}

// secondUnquote is Unquote by patterns, one part after the other.
func secondUnquote(s string) (string, bool) {
	if s == "" || s[0] != '"' && s[0] != '\'' {
		return "", false
	}
	value, rest := "", s[1:]
	for {
		part := parts.FindStringSubmatch(rest)
		switch {
		case part == nil:
			return "", false
		case part[0] == s[:1]:
			return value, len(rest) == 1
		case part[1] != "":
			value += part[1]
		case part[2] != "":
			value += string("\a\b\f\n\r\t\v\\'\"?"[strings.Index("abfnrtv\\'\"?", part[2])])
		case part[3] != "" || part[4] != "":
			n, err := strconv.ParseUint(part[3]+part[4], map[bool]int{true: 8, false: 16}[part[3] != ""], 8)
			if err != nil {
				return "", false
			}
			value += string([]byte{byte(n)})
		default:
			n, err := strconv.ParseUint(part[5]+part[6], 16, 32)
			if err != nil || !isRune(int(n)) {
				return "", false
			}
			value += string(encoded(int(n)))
		}
		rest = rest[len(part[0]):]
	}
}

// parts is a part of a literal: itself, one character, octal digits,
// hexadecimal digits, four of them, eight of them.
var parts = regexp.MustCompile(`\A(?:([^\x00-\x1f\\])|\\(?:([abfnrtv\\'"?])|([0-7]{1,3})|[xX]([0-9a-fA-F]{1,2})|u([0-9a-fA-F]{4})|U([0-9a-fA-F]{8})))`)

func agreeOnLiteral(t *testing.T, s string) {
	t.Helper()
	b, e := text.Unquote(s)
	want, ok := secondUnquote(s)
	if string(b) != want && ok || ok != (e == api.OK) || !ok && (e != api.ErrQuote || len(b) != 0) {
		t.Fatalf("Unquote(%q): %q, %d, want %q, %v", s, b, e, want, ok)
	}
}

// P2.3: all short strings, and changed literals.
func TestUnquoteByPattern(t *testing.T) {
	everyString("\"'\\x4nz", 6, func(s string) { agreeOnLiteral(t, s) })
	everyString("\\x048aug ", 5, func(s string) {
		agreeOnLiteral(t, `"`+s+`"`)
		agreeOnLiteral(t, `'\U0010`+s)
		agreeOnLiteral(t, `'\u`+s+`'`)
	})
	some := []string{`a`, ` `, `\n`, `\\`, `\'`, `\"`, `\?`, `\7`, `\37`, `\377`, `\x`, `\x1`, `\X1f`, `\u12`, `\u1234`, `\U0010FFFF`, `\Ud8000000`, `0`, `f`, "\n", `"`, `'`}
	r := rand.New(rand.NewSource(23))
	for range 200000 {
		quote := `"'`[r.Intn(2):][:1]
		s := quote
		for range r.Intn(6) {
			s += some[r.Intn(len(some))]
		}
		agreeOnLiteral(t, s+quote)
	}
}

// quoted is the chapter's definition of a canonical literal.
func quoted(b []byte) string {
	s := `"`
	for _, c := range b {
		switch {
		case strings.Contains("\n\r\t\"\\", string([]byte{c})):
			s += `\` + string(`nrt"\`[strings.IndexByte("\n\r\t\"\\", c)])
		case c < 0x20 || c > 0x7E:
			s += fmt.Sprintf(`\%03o`, c)
		default:
			s += string([]byte{c})
		}
	}
	return s + `"`
}

// P2.3: canonical literals.
func TestQuote(t *testing.T) {
	for s, want := range map[string]string{
		"": `""`, "a": `"a"`, "\n\r\t": `"\n\r\t"`, `"`: `"\""`, `\`: `"\\"`, "'": `"'"`, "?": `"?"`,
		"\x00": `"\000"`, "\x07\x08\x0b\x0c": `"\007\010\013\014"`, "\x1f\x20": `"\037 "`, "\x7e\x7f": `"~\177"`, "\x80\xff": `"\200\377"`,
		"\x001": `"\0001"`, "\xc3\xa4": `"\303\244"`, `\n`: `"\\n"`, "//": `"//"`, "a'b\"c": `"a'b\"c"`,
	} {
		if got := text.Quote([]byte(s)); got != want {
			t.Errorf("Quote(%q) = %s, want %s", s, got, want)
		}
	}
	if got := text.Quote(nil); got != `""` {
		t.Errorf("Quote(nil) = %s", got)
	}
}

// comesBack checks what P2.6 says of the canonical literal of b.
func comesBack(t *testing.T, b []byte) {
	t.Helper()
	s := text.Quote(b)
	if s != quoted(b) {
		t.Fatalf("Quote(%q) = %s, want %s", b, s, quoted(b))
	}
	for i := range len(s) {
		if s[i] < 0x20 || s[i] > 0x7E {
			t.Fatalf("Quote(%q) = %q", b, s)
		}
	}
	got, e := text.Unquote(s)
	if e != api.OK || !bytes.Equal(got, b) || text.Quote(got) != s {
		t.Fatalf("Unquote(%s): %q, %d, want %q", s, got, e, b)
	}
}

// P2.6: all pairs of bytes, and some longer lists.
func TestLiteralsComeBack(t *testing.T) {
	comesBack(t, nil)
	for i := range 256 {
		comesBack(t, []byte{byte(i)})
		for j := range 256 {
			comesBack(t, []byte{byte(i), byte(j)})
		}
	}
	r := rand.New(rand.NewSource(26))
	for range 20000 {
		comesBack(t, anyBytes(r, r.Intn(12)))
		comesBack(t, []byte(anyString(r, r.Intn(12))))
	}
	comesBack(t, anyBytes(r, 3000))
}

// P2.3, R1: long literals take no more than their length, as escapes too.
func TestLongLiterals(t *testing.T) {
	const count = 100000
	for part, want := range map[string]string{`a`: "a", `\n`: "\n", `\0`: "\x00", `\x41`: "A", `\u20AC`: "\u20AC", `\U0001F600`: "\U0001F600"} {
		b, e := text.Unquote(`"` + strings.Repeat(part, count) + `"`)
		if e != api.OK || string(b) != strings.Repeat(want, count) {
			t.Errorf("%s: %d bytes, %d", part, len(b), e)
		}
		isNone(t, `"`+strings.Repeat(part, count)+`\"`)
	}
	b := bytes.Repeat([]byte{0xff, '"', 'a'}, count)
	if got, e := text.Unquote(text.Quote(b)); e != api.OK || !bytes.Equal(got, b) {
		t.Errorf("%d bytes became %d, %d", len(b), len(got), e)
	}
}
