package jtree

import (
	"strings"
)

// Each byte of escaped is written in a string as a backslash and the byte of letters
// that is at its place.
const (
	escaped = "\"\\\b\f\n\r\t"
	letters = "\"\\bfnrt"
)

// appendNode appends the text of a valid node.
func appendNode(b []byte, n Node) []byte {
	switch n.Kind {
	case KNum:
		return append(b, n.S...)
	case KStr:
		return appendString(b, n.S)
	case KList:
		return append(appendParts(append(b, '['), n), ']')
	case KObj:
		return append(appendParts(append(b, '{'), n), '}')
	}
	return append(b, word(n.Kind)...)
}

// word is the text of a node that has no fields.
func word(kind int) string {
	switch kind {
	case KNull:
		return "null"
	case KFalse:
		return "false"
	}
	return "true"
}

// appendParts appends what a node contains; each part of an object behind its key.
func appendParts(b []byte, n Node) []byte {
	for i, part := range n.L {
		if i > 0 {
			b = append(b, ',')
		}
		if n.Kind == KObj {
			b = append(appendString(b, n.Keys[i]), ':')
		}
		b = appendNode(b, part)
	}
	return b
}

func appendString(b []byte, s string) []byte {
	b = append(b, '"')
	for i := range len(s) {
		b = appendByte(b, s[i])
	}
	return append(b, '"')
}

// appendByte appends how a byte is written in a string.
func appendByte(b []byte, c byte) []byte {
	const digits = "0123456789abcdef"
	if i := strings.IndexByte(escaped, c); i >= 0 {
		return append(b, '\\', letters[i])
	}
	if c < ' ' {
		return append(b, '\\', 'u', '0', '0', digits[c>>4], digits[c&15])
	}
	return append(b, c)
}
