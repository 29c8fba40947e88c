package jtree_test

import (
	"math/rand"
	"strings"
	"testing"

	"signetry/api"
	"signetry/jtree"
)

// P14.4: the text of a node is parsed as that node, also with more white space, and
// is the text of what is parsed.
func TestTextIsParsed(t *testing.T) {
	t.Parallel()
	r := rand.New(rand.NewSource(10))
	for range 10000 {
		n := anyNode(r, 6)
		s, e := jtree.Text(n)
		if e != api.OK {
			t.Fatalf("%s: %d", told(n), e)
		}
		reads(t, s, n)
		loose := looseText(r, n, func(_ *rand.Rand, s string) string { return `"` + inQuotes.Replace(s) + `"` })
		reads(t, loose, n)
		m, _, _ := jtree.Parse(loose)
		if again, e := jtree.Text(m); again != s || e != api.OK || !jtree.Same(m, n) {
			t.Fatalf("%q is read as %q, %d", loose, again, e)
		}
	}
}

// P14.4: what is parsed is valid, and its text is read as the same.
func TestParsedIsValid(t *testing.T) {
	t.Parallel()
	r := rand.New(rand.NewSource(11))
	valid := 0
	for range 50000 {
		s := mutated(r, looseText(r, anyNode(r, 3), looseString))
		n, _, e := jtree.Parse(s)
		if e != api.OK {
			continue
		}
		valid++
		isValid(t, n)
		text, _ := jtree.Text(n)
		reads(t, text, n)
	}
	if valid < 2000 {
		t.Errorf("only %d texts were valid", valid)
	}
}

// isCutRight tells whether a valid text that is cut off is still valid: in white space
// behind the node, and in or behind a number that is the node.
func isCutRight(s string, size int) bool {
	node := strings.Trim(s, " \t\n\r")
	start := strings.Index(s, node)
	if size >= start+len(node) {
		return true
	}
	return size > start && wholeNumber.MatchString(node) && s[start:size] != "-"
}

// P14.5: texts that are cut off anywhere.
func TestCutTexts(t *testing.T) {
	t.Parallel()
	r := rand.New(rand.NewSource(12))
	cut := func(s string) {
		for size := range len(s) {
			n, at, e := jtree.Parse(s[:size])
			if isCutRight(s, size) {
				if e != api.OK || at != 0 || equal(n, jtree.Node{}) {
					t.Fatalf("%q, of %q: %d, %d", s[:size], s, at, e)
				}
				continue
			}
			if e != api.ErrJson || at > size || !equal(n, jtree.Node{}) {
				t.Fatalf("%q, of %q: %s, %d, %d", s[:size], s, told(n), at, e)
			}
			// It is cut off, and so the error is at the end, or at the start of what is
			// cut off.
			if at != size && s[at] != '"' {
				t.Fatalf("%q, of %q: an error at %d", s[:size], s, at)
			}
			likeSecond(t, s[:size])
		}
	}
	for _, s := range []string{
		"1 ", "-12\n", " 120 ", "0", "-0", "null ", "true", "false\t\t", `"" `, `"ab"`, "[]  ", "{} ", " [ 1 , 2 ] ", `{"a":1}`, ` { "a" : 1 , "b" : [ ] } `, `[12,-34]`, `{"a\n":"\u0041\ud83d\ude00","b":-1}`, `[[[[]]]]`, strings.Repeat("7", 40) + " ",
		strings.Repeat("[", 60) + strings.Repeat("]", 60), "[" + strings.Repeat("1,", 500) + "1]",
	} {
		if !likeSecond(t, s) {
			t.Fatalf("%q is not valid", s)
		}
		cut(s)
	}
	for range 500 {
		cut(looseText(r, anyNode(r, 4), looseString))
	}
}
