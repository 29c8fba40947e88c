package jtree_test

import (
	"testing"

	"signetry/api"
	"signetry/jtree"
)

// The examples of the chapter, in its order.
func TestChapterExamples(t *testing.T) {
	const first = `{"a": [1, -20, "x\n"], "b": null}`
	want := obj("a", list(num("1"), num("-20"), str("x\n")), "b", null())
	reads(t, first, want)
	writes(t, want, `{"a":[1,-20,"x\n"],"b":null}`)
	n, _, _ := jtree.Parse(first)
	if b, ok := jtree.Get(n, "b"); !ok || !equal(b, null()) {
		t.Errorf("Get(b): %s, %t", told(b), ok)
	}
	if count := jtree.Count(n); count != 6 {
		t.Errorf("Count: %d", count)
	}
	reads(t, `"\u00e4\ud83d\ude00\/"`, str("\xC3\xA4\xF0\x9F\x98\x80\x2F"))
	for _, c := range []struct {
		s  string
		at int
	}{{"01", 1}, {"1.5", 1}, {"[1,]", 3}, {`{"a":1,"a":2}`, 7}, {`"\ud83d"`, 0}, {"tru", 3}, {"", 0}} {
		refuses(t, c.s, c.at, api.ErrJson)
	}
}

// The texts in the examples of the document.
func TestDocumentExamples(t *testing.T) {
	writes(t, obj("a", num("150"), "b", list(yes())), `{"a":150,"b":[true]}`)
	writes(t, obj("a", str("5")), `{"a":"5"}`)
	writes(t, obj("b", str("/w==")), `{"b":"/w=="}`)
	reads(t, `{"b":[true],"a":150}`, obj("b", list(yes()), "a", num("150")))
	reads(t, `{"a":5,"s":"x"}`, obj("a", num("5"), "s", str("x")))
}
