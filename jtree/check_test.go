package jtree_test

import (
	"math"
	"strings"
	"testing"

	"signetry/api"
	"signetry/jtree"
)

// everywhere calls f with a node alone, and in others.
func everywhere(n jtree.Node, f func(jtree.Node)) {
	f(n)
	f(list(n))
	f(list(null(), n))
	f(list(n, str("a")))
	f(obj("a", n))
	f(obj("a", yes(), "b", n))
	f(obj("b", n, "a", list()))
	f(list(obj("a", list(list(), n))))
	f(around(inside(n, 20), 20))
}

// P14.1: the kinds of nodes.
func TestKinds(t *testing.T) {
	for _, n := range []jtree.Node{null(), no(), yes(), num("0"), str(""), list(), obj(), list(null()), obj("", null())} {
		everywhere(n, func(n jtree.Node) { isValid(t, n) })
	}
	for _, kind := range []int{0, -1, 8, 9, 255, 256 + 1, 1<<32 + 4, math.MaxInt, math.MinInt} {
		for _, s := range []string{"", "1"} {
			everywhere(jtree.Node{Kind: kind, S: s}, func(n jtree.Node) { isNone(t, n) })
		}
	}
}

// P14.1: fields that a kind does not have are empty.
func TestFieldsOfKinds(t *testing.T) {
	for kind := 1; kind <= 7; kind++ {
		start := jtree.Node{Kind: kind}
		if kind == jtree.KNum {
			start.S = "1"
		}
		for _, s := range []string{"a", "1", " ", "\x00", "\xff"} {
			n := start
			n.S = s
			isRight := kind == jtree.KNum && s == "1" || kind == jtree.KStr && s != "\xff"
			everywhere(n, func(n jtree.Node) { rightOrNot(t, n, isRight) })
		}
		for _, keys := range [][]string{{""}, {"a"}, {"a", "b"}} {
			n := start
			n.Keys = keys
			everywhere(n, func(n jtree.Node) { isNone(t, n) })
			n.L = times(len(keys), null())
			everywhere(n, func(n jtree.Node) { rightOrNot(t, n, kind == jtree.KObj) })
		}
		for _, l := range [][]jtree.Node{{null()}, {list()}, {num("1"), num("1")}} {
			n := start
			n.L = l
			everywhere(n, func(n jtree.Node) { rightOrNot(t, n, kind == jtree.KList) })
		}
		n := start
		n.Keys, n.L = []string{}, []jtree.Node{}
		everywhere(n, func(n jtree.Node) { isValid(t, n) })
	}
}

func rightOrNot(t *testing.T, n jtree.Node, isRight bool) {
	t.Helper()
	if isRight {
		isValid(t, n)
	} else {
		isNone(t, n)
	}
}

// P14.1: the numbers, alone and in others.
func TestNumbers(t *testing.T) {
	nines := strings.Repeat("9", 40)
	for _, s := range []string{
		"0", "-0", "1", "-1", "9", "-9", "10", "-10", "100", "1234567890", "-1234567890", "18446744073709551615", "18446744073709551616",
		nines, "-" + nines, "1" + strings.Repeat("0", 39), "-1" + strings.Repeat("0", 39), nines[1:],
	} {
		everywhere(num(s), func(n jtree.Node) { isValid(t, n) })
		writes(t, num(s), s)
	}
	for _, s := range []string{
		"", "-", "--1", "+1", "+", "00", "01", "-00", "-01", "0" + nines[1:], "1-", "1-1", "- 1", " 1", "1 ", "\n1", "1\n", "1.", "1.5", ".5", "-.5", "1e5", "1E5", "0x1", "1,", "a", "1a", "a1",
		nines + "0", "-" + nines + "0", "1" + strings.Repeat("0", 40), strings.Repeat("9", 100000), "0" + nines, strings.Repeat("0", 41), "1\x00", "\x001", "/", ":", "1/", "1:", "\u0661", "1\u0661", "\xff", "null",
	} {
		everywhere(num(s), func(n jtree.Node) { isNone(t, n) })
	}
	everyString("-01 9", 5, func(s string) { rightOrNot(t, num(s), wholeNumber.MatchString(s)) })
}

// notUtf is strings that are not UTF-8.
var notUtf = []string{
	"\xff", "\xc3", "\x80", "\xc0\x80", "\xed\xa0\x80", "\xed\xa0\xbd\xed\xb8\x80", "\xf4\x90\x80\x80", "\xe2\x82", "\xf0\x9f\x98", "\xf8\x88\x80\x80\x80", "\xe0\x80\x80", "\xc3\xa4\xc3", "a\xc3b", "\xc3\xc3\xa4", "\xa4\xc3",
}

// utf is strings that are.
var utf = []string{
	"", "a", "\x00", "\x1f", "\x7f", "\"", "\\", "\xc3\xa4", "\xc2\x80", "\xdf\xbf", "\xe0\xa0\x80", "\xed\x9f\xbf", "\xee\x80\x80", "\xef\xbf\xbd", "\xef\xbf\xbf", "\xf0\x90\x80\x80", "\xf0\x9f\x98\x80", "\xf4\x8f\xbf\xbf", "\ufeffa", "a\u2028b",
}

// P14.1: strings and keys are UTF-8.
func TestStringsAndKeys(t *testing.T) {
	for _, s := range utf {
		everywhere(str(s), func(n jtree.Node) { isValid(t, n) })
		everywhere(obj(s, null()), func(n jtree.Node) { isValid(t, n) })
		everywhere(obj("x", null(), s, yes()), func(n jtree.Node) { isValid(t, n) })
	}
	for _, s := range notUtf {
		for _, s := range []string{s, "a" + s, s + "a", strings.Repeat("a", 10000) + s} {
			everywhere(str(s), func(n jtree.Node) { isNone(t, n) })
			everywhere(obj(s, null()), func(n jtree.Node) { isNone(t, n) })
			everywhere(obj("x", null(), s, yes()), func(n jtree.Node) { isNone(t, n) })
		}
	}
}

// P14.1: no two keys of an object are equal; those of other objects may be.
func TestEqualKeys(t *testing.T) {
	for _, s := range utf {
		for _, n := range []jtree.Node{obj(s, null(), s, null()), obj(s, null(), s, yes()), obj("x", null(), s, yes(), "y", no(), s, null()), obj(s, yes(), "x", no(), "y", no(), "z", no(), s, yes())} {
			everywhere(n, func(n jtree.Node) { isNone(t, n) })
		}
		everywhere(obj(s, obj(s, obj(s, null()))), func(n jtree.Node) { isValid(t, n) })
		everywhere(list(obj(s, null()), obj(s, null())), func(n jtree.Node) { isValid(t, n) })
	}
	everywhere(obj("a", null(), "A", null(), "a ", null(), " a", null(), "aa", null(), "", null(), "\x00", null()), func(n jtree.Node) { isValid(t, n) })
	n := keyed(times(3999, null())...)
	isValid(t, n)
	for _, i := range []int{0, 1, 2000, 3997} {
		n.Keys[3998] = n.Keys[i]
		isNone(t, n)
	}
}

// P14.1: as many keys as nodes.
func TestCountOfKeys(t *testing.T) {
	all := []string{"a", "b", "c", "d"}
	for keys := range 5 {
		for nodes := range 5 {
			n := object(times(nodes, num("1"))...)
			n.Keys = all[:keys]
			everywhere(n, func(n jtree.Node) { rightOrNot(t, n, keys == nodes) })
		}
	}
}

// P14.1: at most 4000 nodes, wherever they are.
func TestMostNodes(t *testing.T) {
	hundred := list(times(99, yes())...)
	for _, leaf := range []jtree.Node{null(), no(), yes(), num("1"), str("a"), list(), obj()} {
		isValid(t, list(times(3999, leaf)...))
		isNone(t, list(times(4000, leaf)...))
		isValid(t, keyed(times(3999, leaf)...))
		isNone(t, keyed(times(4000, leaf)...))
		isValid(t, list(append(times(39, hundred), times(99, leaf)...)...))
		isNone(t, list(append(times(39, hundred), times(100, leaf)...)...))
		isNone(t, list(append(times(100, leaf), times(39, hundred)...)...))
		isValid(t, obj("a", list(times(1998, leaf)...), "b", list(times(1999, leaf)...)))
		isNone(t, obj("a", list(times(1999, leaf)...), "b", list(times(1999, leaf)...)))
		isNone(t, around(list(times(3941, leaf)...), 59))
		isValid(t, around(list(times(3941, leaf)...), 58))
	}
	isNone(t, list(times(100000, null())...))
	isNone(t, keyed(times(100000, null())...))
}

// P14.1: at most 60 deep.
func TestDeepest(t *testing.T) {
	for _, leaf := range []jtree.Node{null(), num("1"), str("a"), list(), obj()} {
		for _, nested := range []func(jtree.Node, int) jtree.Node{around, inside} {
			isValid(t, nested(leaf, 58))
			isValid(t, nested(leaf, 59))
			isNone(t, nested(leaf, 60))
			isNone(t, nested(leaf, 61))
			isNone(t, nested(leaf, 1000))
			isValid(t, list(null(), nested(leaf, 58)))
			isNone(t, list(null(), nested(leaf, 59), null()))
			isValid(t, obj("a", nested(leaf, 58), "b", nested(leaf, 58)))
			isNone(t, obj("a", nested(leaf, 58), "b", nested(leaf, 59)))
		}
		isValid(t, around(inside(leaf, 29), 30))
		isNone(t, around(inside(leaf, 30), 30))
	}
}

// R1: a part that stands in very many places is not looked at in all of them.
func TestSharedParts(t *testing.T) {
	n := null()
	for range 59 {
		n = list(n, n, n)
	}
	isNone(t, n)
	big := keyed(times(4001, null())...)
	n = big
	for range 58 {
		n = object(times(4001, n)...)
		n.Keys = big.Keys
	}
	isNone(t, n)
	// A list that is in itself.
	l := []jtree.Node{list()}
	l[0].L = l
	isNone(t, list(l...))
	l = []jtree.Node{obj("a", null())}
	l[0].L = l
	isNone(t, l[0])
}

// P14.1: the text of a node that is not valid is none, with ErrArg.
func TestTextOfNone(t *testing.T) {
	for _, n := range []jtree.Node{{}, num("01"), str("\xff"), list(jtree.Node{}), obj("a", null(), "a", null()), around(null(), 60)} {
		if s, e := jtree.Text(n); s != "" || e != api.ErrArg {
			t.Errorf("Text(%s): %q, %d", told(n), s, e)
		}
	}
}
