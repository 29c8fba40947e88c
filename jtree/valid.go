package jtree

import (
	"signetry/api"
	"signetry/text"
)

// Limits that api does not name: how deep nodes are, and the digits of numbers.
const (
	mostDeep   = 60
	mostDigits = 40
)

// checker counts nodes while it checks them.
type checker struct{ many int }

// isValid tells whether a node is valid at a depth; it has been counted. What a node
// contains is counted before it is looked at, so that no more is looked at than a
// valid node has, even if one part stands in many places.
func (c *checker) isValid(n Node, deep int) bool {
	c.many += len(n.L)
	if deep > mostDeep || c.many > api.MaxNodes || !isShaped(n) {
		return false
	}
	for _, part := range n.L {
		if !c.isValid(part, deep+1) {
			return false
		}
	}
	return true
}

// isShaped tells whether a node has the fields of its kind, whatever is in its list.
func isShaped(n Node) bool {
	isLeaf := len(n.Keys) == 0 && len(n.L) == 0
	switch n.Kind {
	case KNull, KFalse, KTrue:
		return n.S == "" && isLeaf
	case KNum:
		return isInteger(n.S) && isLeaf
	case KStr:
		return text.Valid([]byte(n.S)) && isLeaf
	case KList:
		return n.S == "" && len(n.Keys) == 0
	case KObj:
		return n.S == "" && len(n.Keys) == len(n.L) && areKeys(n.Keys)
	}
	return false
}

func areKeys(l []string) bool {
	seen := keys{}
	for _, s := range l {
		if !text.Valid([]byte(s)) || !seen.add(s) {
			return false
		}
	}
	return true
}

// keys is those that an object has.
type keys map[string]struct{}

// add tells whether a key is a new one.
func (k keys) add(s string) bool {
	_, isKnown := k[s]
	k[s] = struct{}{}
	return !isKnown
}

func isInteger(s string) bool {
	size, digits := integer(s)
	return size == len(s) && digits >= 1 && digits <= mostDigits
}

// integer is how many bytes at the start of a text may be those of an integer, and how
// many of them are digits. It counts no further than to one digit too many.
func integer(s string) (size, digits int) {
	if s != "" && s[0] == '-' {
		size++
	}
	for size < len(s) && isDigit(s[size]) && digits <= mostDigits {
		size++
		digits++
		if digits == 1 && s[size-1] == '0' {
			break // no digit follows a leading 0
		}
	}
	return size, digits
}

func isDigit(c byte) bool {
	return c >= '0' && c <= '9'
}
