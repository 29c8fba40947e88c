package tree_test

import (
	"fmt"
	"math/rand"
	"strings"
	"testing"

	"signetry/api"
	"signetry/lex"
	"signetry/tree"
)

// head is what each file begins with: 16 bytes.
const head = `syntax="proto3";`

// told is a tree as a text that can be compared: nil and empty lists look the
// same in it.
func told(t api.Tree) string {
	return fmt.Sprintf("%+v", t)
}

// parses checks that a text has this tree, offsets included.
func parses(t *testing.T, s string, want api.Tree) {
	t.Helper()
	if got, at, e := tree.Parse(s); e != api.OK || at != 0 || told(got) != told(want) {
		t.Errorf("Parse(%.300q): %d, %d\n%s\nwant\n%s", s, at, e, told(got), told(want))
	}
}

// accepts is the tree of a text that has one.
func accepts(t *testing.T, s string) api.Tree {
	t.Helper()
	got, at, e := tree.Parse(s)
	if e != api.OK || at != 0 {
		t.Errorf("Parse(%.300q): %d, %d", s, at, e)
	}
	return got
}

// fails checks that a text has this error, there, and nothing beside it.
func fails(t *testing.T, s string, wantAt int, want api.Errno) {
	t.Helper()
	if got, at, e := tree.Parse(s); e != want || at != wantAt || told(got) != told(api.Tree{}) {
		t.Errorf("Parse(%.300q): %d, %d, want %d, %d\n%.200s", s, at, e, wantAt, want, told(got))
	}
}

// marked checks that a file, of which s is what follows its syntax, has this
// error where s has an @, which is not part of it.
func marked(t *testing.T, want api.Errno, s string) {
	t.Helper()
	before, after, ok := strings.Cut(s, "@")
	if !ok {
		t.Fatalf("no mark in %q", s)
	}
	fails(t, head+before+after, len(head+before), want)
}

// inMessage is the only message of a file with these elements.
func inMessage(t *testing.T, s string) api.MsgDef {
	t.Helper()
	got := accepts(t, head+"message M{"+s+"}")
	if len(got.Msgs) != 1 {
		t.Fatalf("%q: %d messages", s, len(got.Msgs))
	}
	return got.Msgs[0]
}

// inEnum is the only enum of a file with these elements.
func inEnum(t *testing.T, s string) api.EnumDef {
	t.Helper()
	got := accepts(t, head+"enum E{"+s+"}")
	if len(got.Enums) != 1 {
		t.Fatalf("%q: %d enums", s, len(got.Enums))
	}
	return got.Enums[0]
}

// counted is a list's elements, one for each number from 0 on, in the places of
// the % of a layout.
func counted(layout, between string, count int) string {
	l := make([]string, count)
	for i := range l {
		l[i] = strings.ReplaceAll(layout, "%", fmt.Sprint(i))
	}
	return strings.Join(l, between)
}

// pick is one of some.
func pick[T any](r *rand.Rand, some []T) T {
	return some[r.Intn(len(some))]
}

// keywords is all identifiers to which the grammar gives a meaning somewhere.
func keywords() []string {
	return strings.Fields("syntax package import public message enum service oneof reserved optional repeated map " +
		"option extensions extend group to max json_name rpc returns")
}

// alphabet is one token of each kind that the grammar tells apart.
func alphabet() []string {
	return append(keywords(), "a", "M", "proto3", "0", "5", "2147483648",
		`"proto3"`, `"a"`, `"a/b.proto"`, `"a b"`, `""`, `";"`, `"message"`,
		"{", "}", "[", "]", "(", ")", "<", ">", "=", ";", ",", ".", "-")
}

// written is the tokens of a text, each as it is written there.
func written(s string) (l []string) {
	words, _, _ := lex.Words(s)
	for i, w := range words[:len(words)-1] {
		l = append(l, strings.TrimSpace(s[w.At:words[i+1].At]))
	}
	return l
}
