package jtree_test

import (
	"strings"
	"testing"

	"signetry/api"
	"signetry/jtree"
)

// different is nodes of which no two are the same, valid or not.
func different() []jtree.Node {
	return []jtree.Node{
		{}, {Kind: -1}, {Kind: 8}, {S: "a"}, {Keys: []string{""}}, {L: []jtree.Node{{}}},
		null(), no(), yes(), num("0"), num("-0"), num("1"), num("-1"), num("10"), num("01"), num(""), num("a"),
		str(""), str("0"), str("1"), str("a"), str("A"), str("aa"), str("ab"), str("\x00"), str("\xff"), str("null"),
		list(), list(null()), list(null(), null()), list(no(), null()), list(null(), no()), list(list()), list(list(), list()), list(list(list())), list(num("1")), list(str("1")), list(jtree.Node{}),
		obj(), obj("a", null()), obj("b", null()), obj("a", no()), obj("", null()), obj("a", null(), "b", null()), obj("b", null(), "a", null()), obj("a", null(), "b", no()), obj("a", no(), "b", null()), obj("a", null(), "a", null()),
		obj("a", obj("a", null())), obj("a", obj("b", null())), obj("a", obj("a", no())), obj("a", list()), obj("ab", null()), obj("\xff", null()),
		object(null()), {Kind: jtree.KObj, Keys: []string{"a"}}, {Kind: jtree.KObj, Keys: []string{"a", "b"}}, {Kind: jtree.KObj, Keys: []string{"a", "b"}, L: []jtree.Node{null()}}, {Kind: jtree.KObj, Keys: []string{"a"}, L: []jtree.Node{null(), null()}},
		{Kind: jtree.KObj, S: "a"}, {Kind: jtree.KList, Keys: []string{"a"}, L: []jtree.Node{null()}}, {Kind: jtree.KStr, L: []jtree.Node{null()}}, {Kind: jtree.KNull, S: "null"},
	}
}

// P14.1: a node is the same as itself and its copy, and as no other one: all of its
// fields count, wherever it is.
func TestSameAndCopy(t *testing.T) {
	l := different()
	for i, a := range l {
		for j, b := range l {
			for _, in := range []func(jtree.Node) jtree.Node{
				func(n jtree.Node) jtree.Node { return n }, jtree.Copy,
				func(n jtree.Node) jtree.Node { return list(null(), n, null()) },
				func(n jtree.Node) jtree.Node { return obj("a", n) },
				func(n jtree.Node) jtree.Node { return obj("a", list(), "b", around(n, 5)) },
			} {
				if got := jtree.Same(in(a), in(b)); got != (i == j) {
					t.Errorf("%s and %s: %t", told(in(a)), told(in(b)), got)
				}
				if !equal(in(a), jtree.Copy(in(a))) {
					t.Errorf("%s is copied as %s", told(in(a)), told(jtree.Copy(in(a))))
				}
			}
		}
	}
}

// P14.1: lists that are nil or empty are the same, everywhere.
func TestNilAndEmpty(t *testing.T) {
	empty := func(n jtree.Node) jtree.Node {
		n.Keys, n.L = append([]string{}, n.Keys...), append([]jtree.Node{}, n.L...)
		for i, part := range n.L {
			n.L[i].Keys, n.L[i].L = append([]string{}, part.Keys...), append([]jtree.Node{}, part.L...)
		}
		return n
	}
	for _, n := range different() {
		m := empty(n)
		if !jtree.Same(n, m) || !jtree.Same(m, n) || !jtree.Same(m, empty(n)) || !jtree.Same(jtree.Copy(m), n) || jtree.Count(m) != jtree.Count(n) || jtree.Check(m) != jtree.Check(n) {
			t.Errorf("%#v and %#v differ", n, m)
		}
	}
}

// P14.1: all nodes count, keys do not.
func TestCount(t *testing.T) {
	for i, n := range []jtree.Node{
		null(), list(null()), list(null(), yes()), obj("a", list(), "b", num("1"), "c", str("abc")), obj("a", obj("b", obj("c", obj("d", null())))), list(list(list(), list()), list(list())),
		obj("a", list(num("1"), num("2"), list()), "b", obj("x", null())), list(obj("a", null()), obj("a", null()), obj("a", list(obj()))), {Kind: 99, S: "a", Keys: []string{"a", "b"}, L: times(8, str("\xff"))},
	} {
		want := []int{1, 2, 3, 4, 5, 6, 7, 8, 9}[i]
		if got := jtree.Count(n); got != want {
			t.Errorf("Count(%s): %d, want %d", told(n), got, want)
		}
	}
	for _, n := range []jtree.Node{{}, no(), num("1"), str("abc"), list(), obj(), {Kind: jtree.KObj, Keys: []string{"a", "b"}}} {
		if got := jtree.Count(n); got != 1 {
			t.Errorf("Count(%s): %d", told(n), got)
		}
	}
	for count := 3990; count <= 4010; count++ {
		if got := jtree.Count(list(times(count, null())...)); got != count+1 {
			t.Errorf("%d, want %d", got, count+1)
		}
		if got := jtree.Count(around(keyed(times(count, null())...), 100)); got != count+101 {
			t.Errorf("%d, want %d", got, count+101)
		}
	}
}

// gets checks what Get returns.
func gets(t *testing.T, n jtree.Node, key string, want jtree.Node) {
	t.Helper()
	if got, ok := jtree.Get(n, key); !ok || !equal(got, want) {
		t.Errorf("Get(%s, %q): %s, %t", told(n), key, told(got), ok)
	}
}

// lacks checks that Get returns nothing.
func lacks(t *testing.T, n jtree.Node, key string) {
	t.Helper()
	if got, ok := jtree.Get(n, key); ok || !equal(got, jtree.Node{}) {
		t.Errorf("Get(%s, %q): %s, %t", told(n), key, told(got), ok)
	}
}

// P14.1: the node of a key, if it is there.
func TestGet(t *testing.T) {
	n := obj("a", num("1"), "b", list(str("x")), "", null(), "\x00", yes(), "ab", obj("c", no()), "ä", str(""), "zero", jtree.Node{})
	for i, key := range n.Keys {
		gets(t, n, key, n.L[i])
	}
	for _, key := range []string{"c", "A", "a ", " a", "aa", "\x01", "\xc3", "a\x00", "\"a\"", "zer"} {
		lacks(t, n, key)
	}
	lacks(t, obj(), "")
	lacks(t, obj(), "a")
	lacks(t, jtree.Node{}, "")
	n = keyed(times(3000, null())...)
	n.L[2999] = str("last")
	gets(t, n, "2999", str("last"))
	lacks(t, n, "3000")
}

// P14.1: of a key that stands twice the first one counts; a key without a node does not.
func TestGetOfNone(t *testing.T) {
	twice := obj("a", num("1"), "a", num("2"), "b", num("3"), "a", num("4"), "b", num("5"))
	gets(t, twice, "a", num("1"))
	gets(t, twice, "b", num("3"))
	for _, nodes := range []int{0, 1, 2, 3, 5} {
		n := object(times(nodes, yes())...)
		n.Keys = []string{"a", "b", "a", "c"}
		for i, key := range []string{"a", "b", "", "c"} {
			if i < nodes && key != "" {
				gets(t, n, key, yes())
			} else {
				lacks(t, n, key)
			}
		}
	}
	gets(t, obj("\xff", num("x"), "b", jtree.Node{Kind: 77}), "\xff", num("x"))
	gets(t, obj("\xff", num("x"), "b", jtree.Node{Kind: 77}), "b", jtree.Node{Kind: 77})
	for kind := -1; kind <= 9; kind++ {
		n := jtree.Node{Kind: kind, S: "a", Keys: []string{"a", "b"}, L: []jtree.Node{num("1"), num("2")}}
		if kind == jtree.KObj {
			gets(t, n, "b", num("2"))
			continue
		}
		lacks(t, n, "a")
		lacks(t, n, "b")
	}
	for _, n := range []jtree.Node{null(), str("a"), num("1"), list(), list(obj("a", null())), {Kind: jtree.KObj, Keys: []string{"a"}}, {Kind: jtree.KObj, L: []jtree.Node{null()}}} {
		lacks(t, n, "a")
		lacks(t, n, "")
		lacks(t, n, "0")
	}
}

// R1: nodes that are nested as deeply as they may be at all.
func TestDeepestNodes(t *testing.T) {
	const deep = 1<<16 - 1
	n, m := around(null(), deep), around(no(), deep)
	if !jtree.Same(n, n) || jtree.Same(n, m) || !jtree.Same(jtree.Copy(n), n) || jtree.Count(n) != deep+1 {
		t.Error("a deep node is not itself")
	}
	isNone(t, n)
	isNone(t, inside(n, 1))
	got, ok := jtree.Get(obj("a", n), "a")
	if !ok || !jtree.Same(got, n) {
		t.Error("a deep node is another one beside a key")
	}
	refuses(t, strings.Repeat("[", 1<<20), 60, api.ErrLimit)
}
