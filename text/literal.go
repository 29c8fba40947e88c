package text

import (
	"unicode/utf8"

	"signetry/api"
)

// Quote is the canonical literal of bytes.
func Quote(b []byte) string {
	out := make([]byte, 0, len(b)+2)
	out = append(out, '"')
	for _, c := range b {
		out = appendPart(out, c)
	}
	return string(append(out, '"'))
}

// appendPart appends the canonical part of a byte. There are always three
// octal digits: a digit that follows would be taken for one of fewer.
func appendPart(out []byte, c byte) []byte {
	switch c {
	case '\n':
		return append(out, '\\', 'n')
	case '\r':
		return append(out, '\\', 'r')
	case '\t':
		return append(out, '\\', 't')
	case '"', '\\':
		return append(out, '\\', c)
	}
	if c < 0x20 || c > 0x7e {
		return append(out, '\\', '0'+c>>6, '0'+c>>3&7, '0'+c&7)
	}
	return append(out, c)
}

// Unquote is the value of a literal.
func Unquote(s string) ([]byte, api.Errno) {
	if len(s) < 2 || s[0] != '"' && s[0] != '\'' || s[len(s)-1] != s[0] {
		return nil, api.ErrQuote
	}
	// If the last quote belongs to an escape, the rest ends inside that escape,
	// which is an error like any other escape that is cut off.
	quote, rest := s[0], s[1:len(s)-1]
	known := escapes()
	out := make([]byte, 0, len(rest))
parts:
	for rest != "" {
		switch c := rest[0]; {
		case c < 0x20 || c == quote:
			return nil, api.ErrQuote
		case c != '\\':
			out, rest = append(out, c), rest[1:]
			continue parts
		}
		more, size := appendEscaped(out, rest[1:], known)
		if size == 0 {
			return nil, api.ErrQuote
		}
		out, rest = more, rest[1+size:]
	}
	return out, api.OK
}

// escape is how a backslash goes on: with one character, which stands for a
// byte, or (if there is a base) with digits, of a byte or of a rune.
type escape struct {
	value       byte
	base        int
	skip        int // how many characters there are ahead of the digits
	least, most int // how many digits there may be
	ofRune      bool
}

// escapes is all of them, by the first character after the backslash.
func escapes() map[byte]escape {
	octal := escape{base: 8, least: 1, most: 3}
	hex := escape{base: 16, skip: 1, least: 1, most: 2}
	return map[byte]escape{
		'a': {value: 0x07}, 'b': {value: 0x08}, 'f': {value: 0x0c}, 'n': {value: 0x0a},
		'r': {value: 0x0d}, 't': {value: 0x09}, 'v': {value: 0x0b},
		'\\': {value: '\\'}, '\'': {value: '\''}, '"': {value: '"'}, '?': {value: '?'},
		'0': octal, '1': octal, '2': octal, '3': octal, '4': octal, '5': octal, '6': octal, '7': octal,
		'x': hex, 'X': hex,
		'u': {base: 16, skip: 1, least: 4, most: 4, ofRune: true},
		'U': {base: 16, skip: 1, least: 8, most: 8, ofRune: true},
	}
}

// appendEscaped appends the value of the escape with which s starts (without
// its backslash), and tells how many bytes of s it has: 0 if it is none.
func appendEscaped(out []byte, s string, known map[byte]escape) ([]byte, int) {
	if s == "" {
		return out, 0
	}
	x, ok := known[s[0]]
	if !ok {
		return out, 0
	}
	if x.base == 0 {
		return append(out, x.value), 1
	}
	n, count := number(s[x.skip:], x.base, x.most)
	switch {
	case count < x.least:
		return out, 0
	case x.ofRune && isRune(n):
		return utf8.AppendRune(out, rune(n)), x.skip + count
	case !x.ofRune && n <= 0xff:
		return append(out, byte(n)), x.skip + count
	}
	return out, 0
}

// number reads as many digits as there are, up to most, and counts them.
func number(s string, base, most int) (n, count int) {
	for count < most && count < len(s) && digit(s[count]) < base {
		n = n*base + digit(s[count])
		count++
	}
	return n, count
}

// digit is the value of a hexadecimal digit; of anything else it is 16, which
// is a digit in no base here.
func digit(c byte) int {
	switch {
	case isDigit(c):
		return int(c - '0')
	case c >= 'a' && c <= 'f':
		return int(c-'a') + 10
	case c >= 'A' && c <= 'F':
		return int(c-'A') + 10
	}
	return 16
}
