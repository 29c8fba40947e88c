package jtree_test

import (
	"fmt"
	"slices"
	"strings"
	"testing"

	"signetry/api"
	"signetry/jtree"
)

func null() jtree.Node                  { return jtree.Node{Kind: jtree.KNull} }
func no() jtree.Node                    { return jtree.Node{Kind: jtree.KFalse} }
func yes() jtree.Node                   { return jtree.Node{Kind: jtree.KTrue} }
func num(s string) jtree.Node           { return jtree.Node{Kind: jtree.KNum, S: s} }
func str(s string) jtree.Node           { return jtree.Node{Kind: jtree.KStr, S: s} }
func list(l ...jtree.Node) jtree.Node   { return jtree.Node{Kind: jtree.KList, L: l} }
func object(l ...jtree.Node) jtree.Node { return jtree.Node{Kind: jtree.KObj, L: l} }

// obj is an object of keys and the nodes beside them.
func obj(l ...any) jtree.Node {
	n := object()
	for i := 0; i < len(l); i += 2 {
		n.Keys, n.L = append(n.Keys, l[i].(string)), append(n.L, l[i+1].(jtree.Node))
	}
	return n
}

// keyed is an object of nodes with keys that are numbers.
func keyed(l ...jtree.Node) jtree.Node {
	n := object(l...)
	for i := range l {
		n.Keys = append(n.Keys, fmt.Sprint(i))
	}
	return n
}

// around is a node in lists, so many of them.
func around(n jtree.Node, count int) jtree.Node {
	for range count {
		n = list(n)
	}
	return n
}

// inside is a node in objects, so many of them.
func inside(n jtree.Node, count int) jtree.Node {
	for range count {
		n = obj("k", n)
	}
	return n
}

// told is a node as a text, with all of its fields.
func told(n jtree.Node) string {
	s := fmt.Sprint(n.Kind)
	if n.S != "" {
		s += fmt.Sprintf("%.60q", n.S)
	}
	if len(n.Keys) > 0 {
		s += fmt.Sprintf("%.200q", n.Keys)
	}
	var parts []string
	for _, part := range n.L {
		parts = append(parts, told(part))
	}
	if len(parts) > 0 {
		s += "(" + strings.Join(parts, " ") + ")"
	}
	if len(s) > 500 {
		s = s[:500] + ".."
	}
	return s
}

// equal is the tests' own comparison. Lists that are nil or empty are the same.
func equal(a, b jtree.Node) bool {
	if a.Kind != b.Kind || a.S != b.S || len(a.Keys) != len(b.Keys) || len(a.L) != len(b.L) {
		return false
	}
	for i := range a.Keys {
		if a.Keys[i] != b.Keys[i] {
			return false
		}
	}
	for i := range a.L {
		if !equal(a.L[i], b.L[i]) {
			return false
		}
	}
	return true
}

// reads checks that a text is parsed as a node.
func reads(t *testing.T, s string, want jtree.Node) {
	t.Helper()
	n, at, e := jtree.Parse(s)
	if e != api.OK || at != 0 || !equal(n, want) {
		t.Errorf("%.200q is read as %s, %d, %d, want %s", s, told(n), at, e, told(want))
	}
}

// refuses checks that a text is none.
func refuses(t *testing.T, s string, wantAt int, want api.Errno) {
	t.Helper()
	n, at, e := jtree.Parse(s)
	if e != want || at != wantAt || !equal(n, jtree.Node{}) {
		t.Errorf("%.200q (%d bytes) is read as %s, %d, %d, want an error %d at %d", s, len(s), told(n), at, e, want, wantAt)
	}
}

// breaks checks that a text is none, from where a mark (^) is in it.
func breaks(t *testing.T, marked string) {
	t.Helper()
	before, after, isMarked := strings.Cut(marked, "^")
	if !isMarked {
		t.Fatalf("no mark in %q", marked)
	}
	refuses(t, before+after, len(before), api.ErrJson)
}

// writes checks the text of a node, and that it is read as that node.
func writes(t *testing.T, n jtree.Node, want string) {
	t.Helper()
	isValid(t, n)
	if s, e := jtree.Text(n); e != api.OK || s != want {
		t.Errorf("the text of %s is %.200q, %d, want %.200q", told(n), s, e, want)
	}
	reads(t, want, n)
}

func isValid(t *testing.T, n jtree.Node) {
	t.Helper()
	if e := jtree.Check(n); e != api.OK {
		t.Errorf("Check(%s): %d", told(n), e)
	}
}

func isNone(t *testing.T, n jtree.Node) {
	t.Helper()
	if e := jtree.Check(n); e != api.ErrArg {
		t.Errorf("Check(%s): %d", told(n), e)
	}
	if s, e := jtree.Text(n); s != "" || e != api.ErrArg {
		t.Errorf("Text(%s): %.100q, %d", told(n), s, e)
	}
}

// everyString calls f for all strings of up to so many of the characters.
func everyString(characters string, size int, f func(s string)) {
	var next func(s []byte)
	next = func(s []byte) {
		f(string(s))
		if len(s) == size {
			return
		}
		for i := range len(characters) {
			next(append(s, characters[i]))
		}
	}
	next(make([]byte, 0, size))
}

// times is so many copies of a node.
func times(count int, n jtree.Node) []jtree.Node {
	return slices.Repeat([]jtree.Node{n}, count)
}
