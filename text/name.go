package text

import (
	"strings"

	"signetry/api"
)

// IsIdent tells whether s is an identifier.
func IsIdent(s string) bool {
	if s == "" || len(s) > api.MaxIdent || isDigit(s[0]) {
		return false
	}
	for i := range len(s) {
		if !isLetter(s[i]) && !isDigit(s[i]) && s[i] != '_' {
			return false
		}
	}
	return true
}

// IsFull tells whether s is a full name.
func IsFull(s string) bool {
	if len(s) > api.MaxFull {
		return false
	}
	for _, part := range strings.Split(s, ".") {
		if !IsIdent(part) {
			return false
		}
	}
	return true
}

// Key is the key of a name. It goes by bytes, because a string that is no name
// and no UTF-8 has a key too, with its other bytes as they are.
func Key(s string) string {
	out := make([]byte, 0, len(s))
	after := false
	for i := range len(s) {
		c := s[i]
		if after && isLower(c) {
			c -= 'a' - 'A'
		}
		after = c == '_'
		if !after {
			out = append(out, c)
		}
	}
	return string(out)
}

func isLetter(c byte) bool {
	return isLower(c) || c >= 'A' && c <= 'Z'
}

func isLower(c byte) bool {
	return c >= 'a' && c <= 'z'
}

func isDigit(c byte) bool {
	return c >= '0' && c <= '9'
}
