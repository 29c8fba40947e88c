package lex

import (
	"strconv"
	"strings"

	"signetry/api"
	"signetry/text"
)

const (
	blanks = " \t\r\n"
	signs  = "{}[]()<>=;,.-"

	// greatest is what a number may be at most: one more than the greatest
	// value of an enum, so that the least one can be written behind its sign.
	greatest = 1 << 31
)

// scanner goes through a text. While a token is read, at stays where the token
// starts: that is where its errors are.
type scanner struct {
	s  string
	at int
}

// reader reads the token that starts at the scanner's place, and tells how
// many bytes of the text it has: 0 if none of the reader's kind starts there.
type reader func() (w api.Word, size int, e api.Errno)

// readers is one for each kind of token. No byte starts tokens of two kinds.
func (x *scanner) readers() []reader {
	return []reader{x.ident, x.number, x.literal, x.sign}
}

// skip passes what may be between tokens. A comment that is not terminated is
// not passed.
func (x *scanner) skip() api.Errno {
	for x.at < len(x.s) {
		rest := x.s[x.at:]
		switch {
		case strings.IndexByte(blanks, rest[0]) >= 0:
			x.at++
		case strings.HasPrefix(rest, "//"):
			x.at += lengthOfLine(rest)
		case strings.HasPrefix(rest, "/*"):
			// The star that opens a comment does not close it too: /*/ is open.
			inside := strings.Index(rest[2:], "*/")
			if inside < 0 {
				return api.ErrWord
			}
			x.at += 2 + inside + 2
		default:
			return api.OK
		}
	}
	return api.OK
}

func (x *scanner) ident() (w api.Word, size int, e api.Errno) {
	if !startsIdent(x.s[x.at]) {
		return api.Word{}, 0, api.OK
	}
	s := x.run()
	if !text.IsIdent(s) {
		return api.Word{}, 0, api.ErrWord
	}
	return api.Word{Kind: api.WordIdent, At: x.at, Text: s}, len(s), api.OK
}

func (x *scanner) number() (w api.Word, size int, e api.Errno) {
	if !isDigit(x.s[x.at]) {
		return api.Word{}, 0, api.OK
	}
	s := x.run()
	n, e := valueOf(s)
	if e != api.OK {
		return api.Word{}, 0, e
	}
	return api.Word{Kind: api.WordNum, At: x.at, Text: s, N: n}, len(s), api.OK
}

func (x *scanner) literal() (w api.Word, size int, e api.Errno) {
	rest := x.s[x.at:]
	if rest[0] != '"' && rest[0] != '\'' {
		return api.Word{}, 0, api.OK
	}
	size = lengthOfLiteral(rest)
	if size == 0 {
		return api.Word{}, 0, api.ErrQuote
	}
	value, e := text.Unquote(rest[:size])
	if e != api.OK {
		return api.Word{}, 0, e
	}
	return api.Word{Kind: api.WordLit, At: x.at, Text: string(value)}, size, api.OK
}

func (x *scanner) sign() (w api.Word, size int, e api.Errno) {
	if strings.IndexByte(signs, x.s[x.at]) < 0 {
		return api.Word{}, 0, api.OK
	}
	return api.Word{Kind: api.WordSign, At: x.at, Text: x.piece(1)}, 1, api.OK
}

// run is all letters, digits and underscores from here on.
func (x *scanner) run() string {
	size := 0
	for rest := x.s[x.at:]; size < len(rest) && (startsIdent(rest[size]) || isDigit(rest[size])); {
		size++
	}
	return x.piece(size)
}

// piece is that many bytes from here on, in memory of their own: a token must
// not keep hold of the text.
func (x *scanner) piece(size int) string {
	return strings.Clone(x.s[x.at : x.at+size])
}

// lengthOfLine does not count the line feed.
func lengthOfLine(s string) int {
	if size := strings.IndexByte(s, '\n'); size >= 0 {
		return size
	}
	return len(s)
}

// lengthOfLiteral is that of the literal with which s starts, both quotes
// included: 0 if it is not terminated on its line.
func lengthOfLiteral(s string) int {
	for i := 1; i < len(s) && s[i] != '\n'; i++ {
		switch s[i] {
		case s[0]:
			return i + 1
		case '\\':
			// What follows is part of an escape, even if it is the quote. If it
			// is a line feed, there is no such escape, which Unquote finds.
			i++
		}
	}
	return 0
}

// valueOf is the value of a number. The digits are checked ahead of its size:
// a sequence that is no number has no size, however long it is.
func valueOf(s string) (int, api.Errno) {
	digits, known, base := notation(s)
	if digits == "" || strings.Trim(digits, known) != "" {
		return 0, api.ErrWord
	}
	n, err := strconv.ParseUint(digits, base, 64)
	if err != nil || n > greatest {
		return 0, api.ErrRange
	}
	return int(n), api.OK
}

// notation is what s has behind its prefix, which digits may be there, and
// their base. A 0 alone is no prefix.
func notation(s string) (digits, known string, base int) {
	switch {
	case strings.HasPrefix(s, "0x") || strings.HasPrefix(s, "0X"):
		return s[2:], "0123456789abcdefABCDEF", 16
	case len(s) > 1 && s[0] == '0':
		return s[1:], "01234567", 8
	}
	return s, "0123456789", 10
}

func startsIdent(c byte) bool {
	return c >= 'a' && c <= 'z' || c >= 'A' && c <= 'Z' || c == '_'
}

func isDigit(c byte) bool {
	return c >= '0' && c <= '9'
}
