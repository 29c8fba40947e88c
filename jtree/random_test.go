package jtree_test

import (
	"fmt"
	"math/rand"
	"reflect"
	"slices"
	"strings"
	"testing"
	"unicode/utf16"
	"unicode/utf8"

	"signetry/api"
	"signetry/jtree"
)

func pick[T any](r *rand.Rand, l []T) T { return l[r.Intn(len(l))] }

// anyNumber is the digits of a random integer.
func anyNumber(r *rand.Rand) string {
	s := pick(r, []string{"", "-"})
	if r.Intn(4) == 0 {
		return s + "0"
	}
	s += string(rune('1' + r.Intn(9)))
	for range pick(r, []int{0, 1, 5, 39, r.Intn(40)}) {
		s += string(rune('0' + r.Intn(10)))
	}
	return s
}

// anyString is a random string that is UTF-8.
func anyString(r *rand.Rand) string {
	var b []rune
	for range r.Intn(6) {
		switch r.Intn(5) {
		case 0:
			b = append(b, rune(r.Intn(0x20)))
		case 1:
			b = append(b, pick(r, []rune("\"\\/bfnrtu\x7f\u0080\u07ff\u0800\ud7ff\ue000\ufffd\uffff\U00010000\U0010ffff")))
		case 2:
			if c := rune(r.Intn(0x110000)); utf8.ValidRune(c) {
				b = append(b, c)
			}
		default:
			b = append(b, rune(0x20+r.Intn(0x5f)))
		}
	}
	return string(b)
}

// anyNode is a random node that is valid, at most so deep.
func anyNode(r *rand.Rand, deep int) jtree.Node {
	kind := 1 + r.Intn(7)
	if deep > 2 && r.Intn(2) == 0 {
		kind = 6 + r.Intn(2)
	}
	switch {
	case kind == jtree.KNum:
		return num(anyNumber(r))
	case kind == jtree.KStr || deep == 1:
		return str(anyString(r))
	}
	n := jtree.Node{Kind: kind}
	if kind >= jtree.KList {
		for range r.Intn(5) {
			n.L = append(n.L, anyNode(r, deep-1))
		}
	}
	for range n.L {
		key := anyString(r)
		for slices.Contains(n.Keys, key) {
			key += "x"
		}
		if kind == jtree.KObj {
			n.Keys = append(n.Keys, key)
		}
	}
	return n
}

// blanks is random white space, mostly none.
func blanks(r *rand.Rand) (s string) {
	for range max(0, r.Intn(6)-3) {
		s += string(" \t\n\r"[r.Intn(4)])
	}
	return s
}

// looseString is a random one of the strings that are read as s.
func looseString(r *rand.Rand, s string) string {
	out := `"`
	for _, c := range s {
		short := strings.IndexRune("\"\\/\b\f\n\r\t", c)
		switch {
		case short >= 0 && r.Intn(2) == 0:
			out += `\` + string(`"\/bfnrt`[short])
		case c < 0x20 || c == '"' || c == '\\' || r.Intn(4) == 0:
			if c > 0xffff {
				high, low := utf16.EncodeRune(c)
				out += looseDigits(r, high) + looseDigits(r, low)
				continue
			}
			out += looseDigits(r, c)
		default:
			out += string(c)
		}
	}
	return out + `"`
}

func looseDigits(r *rand.Rand, c rune) string {
	b := []byte(fmt.Sprintf("%04x", c))
	for i := range b {
		if r.Intn(2) == 0 {
			b[i] = strings.ToUpper(string(b[i]))[0]
		}
	}
	return `\u` + string(b)
}

// looseText is a random one of the texts that are read as a valid node.
func looseText(r *rand.Rand, n jtree.Node, quoted func(*rand.Rand, string) string) string {
	var s string
	switch n.Kind {
	case jtree.KStr:
		s = quoted(r, n.S)
	case jtree.KList, jtree.KObj:
		var parts []string
		for i, part := range n.L {
			inner := looseText(r, part, quoted)
			if n.Kind == jtree.KObj {
				inner = blanks(r) + quoted(r, n.Keys[i]) + blanks(r) + ":" + inner
			}
			parts = append(parts, inner)
		}
		if len(parts) == 0 {
			parts = []string{blanks(r)}
		}
		s = strings.Join(parts, ",")
		s = map[int]string{jtree.KList: "[" + s + "]", jtree.KObj: "{" + s + "}"}[n.Kind]
	default:
		s = secondText(n)
	}
	return blanks(r) + s + blanks(r)
}

// mutated is a text that is changed in few places.
func mutated(r *rand.Rand, s string) string {
	b := []byte(s)
	for range 1 + r.Intn(3) {
		i := r.Intn(len(b) + 1)
		j := min(len(b), i+r.Intn(4))
		pieces := []string{
			"", "\\", "\"", "[", "]", "{", "}", ",", ":", "-", "0", "1", " ", "\x00", "\x1f", "\x7f", "\x80", "\xc3", "\xff", "\v", "\u00a0", "\ufeff", ".", "e1", "+", "/", "//", "'",
			`\u`, `\ud83d`, `\ude00`, `\uD83D\uDE00`, `\u00e4`, `\x`, `"":`, `"a":1,`, "null", "True", "nul", "tru", strings.Repeat("7", 40), strings.Repeat("[", 60),
			string([]byte{byte(r.Intn(256))}),
		}
		switch r.Intn(4) {
		case 0:
			b = b[:i]
		case 1:
			b = slices.Insert(b, i, slices.Clone(b[i:j])...)
		default:
			b = slices.Replace(b, i, j, []byte(pick(r, pieces))...)
		}
	}
	return string(b)
}

// P14.2, P14.4: random texts are read as the node they are made of.
func TestRandomTexts(t *testing.T) {
	t.Parallel()
	r := rand.New(rand.NewSource(2))
	for range 10000 {
		n := anyNode(r, 5)
		s := looseText(r, n, looseString)
		reads(t, s, n)
		likeSecond(t, s)
	}
}

// P14.2: random texts that are changed, against the second parser.
func TestMutatedTexts(t *testing.T) {
	t.Parallel()
	r := rand.New(rand.NewSource(3))
	valid, wrong := 0, 0
	for range 100000 {
		s := mutated(r, looseText(r, anyNode(r, 4), looseString))
		if likeSecond(t, s) {
			valid++
		} else {
			wrong++
		}
	}
	if valid < 5000 || wrong < 30000 {
		t.Errorf("%d texts were valid, %d were not", valid, wrong)
	}
}

// change changes one place in a node, which may no longer be valid then.
func change(r *rand.Rand, n *jtree.Node) {
	for len(n.L) > 0 && r.Intn(4) > 0 {
		n = &n.L[r.Intn(len(n.L))]
	}
	switch r.Intn(6) {
	case 0:
		n.Kind = r.Intn(10) - 1
	case 1:
		n.S = pick(r, []string{"", "a", "0", "-0", "-", "01", "1.5", "+1", "1 ", "\xff", "\xc3\xa4", strings.Repeat("1", 41), "-" + strings.Repeat("1", 40)})
	case 2:
		n.Keys = append(n.Keys, pick(r, []string{"", "a", "\xff"}))
	case 3:
		if len(n.Keys) > 0 {
			n.Keys[r.Intn(len(n.Keys))] = pick(r, append([]string{"\xc3", "b"}, n.Keys...))
		}
	case 4:
		if len(n.Keys) > 0 {
			n.Keys = n.Keys[1:]
		}
	default:
		if len(n.L) > 0 && r.Intn(2) == 0 {
			n.L = n.L[1:]
			return
		}
		n.L = append(n.L, anyNode(r, 2))
	}
}

// P14.1: random nodes that are changed, against the second checker.
func TestMutatedNodes(t *testing.T) {
	t.Parallel()
	r := rand.New(rand.NewSource(4))
	valid, wrong := 0, 0
	for range 50000 {
		n := anyNode(r, 4)
		if !likeSecondNode(t, n) {
			t.Fatalf("%s is not valid", told(n))
		}
		for range 1 + r.Intn(2) {
			change(r, &n)
		}
		if likeSecondNode(t, n) {
			valid++
			s, _ := jtree.Text(n)
			reads(t, s, n)
		} else {
			wrong++
		}
	}
	if valid < 5000 || wrong < 20000 {
		t.Errorf("%d nodes were valid, %d were not", valid, wrong)
	}
}

// anything is a node of any kind with anything in its fields.
func anything(r *rand.Rand, deep int) jtree.Node {
	n := jtree.Node{Kind: r.Intn(9), S: pick(r, []string{"", "", "a", "1", "\xff"})}
	for range r.Intn(4) {
		n.Keys = append(n.Keys, pick(r, []string{"", "a", "b", "\xff"}))
	}
	for range r.Intn(4) {
		if deep > 1 {
			n.L = append(n.L, anything(r, deep-1))
		}
	}
	return n
}

// P14.1: nodes with anything in them, against what the chapter says of each function.
func TestAnything(t *testing.T) {
	t.Parallel()
	r := rand.New(rand.NewSource(5))
	same := 0
	for range 20000 {
		n, m := anything(r, 3), anything(r, 3)
		likeSecondNode(t, n)
		c := jtree.Copy(n)
		if !equal(c, n) || !jtree.Same(c, n) || !jtree.Same(n, n) {
			t.Fatalf("%s is the copy of %s", told(c), told(n))
		}
		change(r, &c)
		for _, o := range []jtree.Node{c, m} {
			want := equal(n, o)
			if jtree.Same(n, o) != want || jtree.Same(o, n) != want {
				t.Fatalf("%s and %s: %t", told(n), told(o), !want)
			}
			if want {
				same++
			}
		}
		if got, want := jtree.Count(n), strings.Count(fmt.Sprintf("%#v", n), "Kind:"); got != want {
			t.Fatalf("Count(%s): %d, want %d", told(n), got, want)
		}
		likeSecondGet(t, n)
	}
	if same < 100 {
		t.Errorf("only %d were the same", same)
	}
}

// likeSecondGet checks what Get returns for keys.
func likeSecondGet(t *testing.T, n jtree.Node) {
	t.Helper()
	for _, key := range []string{"", "a", "b", "c", "\xff"} {
		var want jtree.Node
		isThere := false
		for i := min(len(n.Keys), len(n.L)) - 1; i >= 0; i-- {
			if n.Kind == jtree.KObj && n.Keys[i] == key {
				want, isThere = n.L[i], true
			}
		}
		if got, ok := jtree.Get(n, key); ok != isThere || !equal(got, want) || !ok && !reflect.DeepEqual(got, jtree.Node{}) {
			t.Fatalf("Get(%s, %q): %s, %t", told(n), key, told(got), ok)
		}
	}
}

// P14.2: any bytes.
func TestRandomBytes(t *testing.T) {
	t.Parallel()
	r := rand.New(rand.NewSource(6))
	for range 20000 {
		b := make([]byte, r.Intn(8))
		r.Read(b)
		likeSecond(t, string(b))
		likeSecond(t, `"`+string(b)+`"`)
		likeSecond(t, `{"a":`+string(b))
		if _, at, e := jtree.Parse(string(b)); e != api.OK && e != api.ErrJson || at < 0 || at > len(b) {
			t.Fatalf("%q: %d, %d", b, at, e)
		}
	}
}
