package jtree_test

import (
	"encoding/json"
	"errors"
	"fmt"
	"math/rand"
	"regexp"
	"slices"
	"strings"
	"testing"
	"unicode/utf8"

	"signetry/api"
	"signetry/jtree"
)

// The chapter's strings and numbers, as regular expressions. A string is cut off where
// it has something that is not allowed in it.
var (
	startOfString = regexp.MustCompile(`^"(?:[^"\\\x00-\x1f]` +
		`|\\["\\/bfnrt]` +
		`|\\u[0-9a-cefA-CEF][0-9a-fA-F]{3}` +
		`|\\u[dD][0-7][0-9a-fA-F]{2}` +
		`|\\u[dD][89abAB][0-9a-fA-F]{2}\\u[dD][c-fC-F][0-9a-fA-F]{2})*`)
	startOfNumber = regexp.MustCompile(`^-?(?:0|[1-9][0-9]*)`)
	wholeNumber   = regexp.MustCompile(`^-?(?:0|[1-9][0-9]{0,39})$`)
)

// box is a node of which the parts are not known yet, and what it is in.
type box struct {
	n     jtree.Node
	parts []*box
	outer *box
}

func (b *box) node() jtree.Node {
	n := b.n
	for _, part := range b.parts {
		n.L = append(n.L, part.node())
	}
	return n
}

// place is what may come next.
type place int

const (
	aNode place = iota
	aNodeOrClosing
	aKey
	aKeyOrClosing
	aColon
	aCommaOrClosing
	theEnd
)

// second is a parser without recursion: it goes from place to place, and knows what the
// node that is read next is in.
type second struct {
	s       string
	at      int
	place   place
	whole   *box
	outer   *box
	many    int
	errorAt int
	e       api.Errno
}

// secondParse is what Parse returns, in other words.
func secondParse(s string) (jtree.Node, int, api.Errno) {
	if len(s) > 1<<20 {
		return jtree.Node{}, 0, api.ErrLimit
	}
	x := &second{s: s}
	for x.e == api.OK {
		x.at = len(s) - len(strings.TrimLeft(s[x.at:], " \t\n\r"))
		if x.at == len(s) && x.place == theEnd {
			return x.whole.node(), 0, api.OK
		}
		x.step()
	}
	return jtree.Node{}, x.errorAt, x.e
}

// fail keeps the first error.
func (x *second) fail(at int, e api.Errno) {
	if x.e == api.OK {
		x.errorAt, x.e = at, e
	}
}

func (x *second) rest() string { return x.s[x.at:] }

// is tells whether the rest starts with one of some characters.
func (x *second) is(characters string) bool {
	return x.at < len(x.s) && strings.IndexByte(characters, x.s[x.at]) >= 0
}

func (x *second) step() {
	switch {
	case (x.place == aNodeOrClosing || x.place == aKeyOrClosing || x.place == aCommaOrClosing && x.outer != nil) && x.is(x.closing()):
		x.at++
		x.outer = x.outer.outer
		x.leave()
	case x.place == aCommaOrClosing && x.is(","):
		x.at++
		x.place = map[int]place{jtree.KList: aNode, jtree.KObj: aKey}[x.outer.n.Kind]
	case x.place == aColon && x.is(":"):
		x.at++
		x.place = aNode
	case (x.place == aKey || x.place == aKeyOrClosing) && x.is(`"`):
		start := x.at
		key := x.quoted()
		if slices.Contains(x.outer.n.Keys, key) {
			x.fail(start, api.ErrJson)
		}
		x.outer.n.Keys = append(x.outer.n.Keys, key)
		x.place = aColon
	case (x.place == aNode || x.place == aNodeOrClosing) && x.is(`[{"-0123456789ntf`):
		x.enter()
	default:
		x.fail(x.at, api.ErrJson)
	}
}

func (x *second) closing() string {
	return map[int]string{jtree.KList: "]", jtree.KObj: "}"}[x.outer.n.Kind]
}

// leave is the place behind a node.
func (x *second) leave() {
	x.place = aCommaOrClosing
	if x.outer == nil {
		x.place = theEnd
	}
}

// enter reads a node, or its opening bracket.
func (x *second) enter() {
	deep := 1
	for b := x.outer; b != nil; b = b.outer {
		deep++
	}
	if x.many++; x.many > 4000 || deep > 60 {
		x.fail(x.at, api.ErrLimit)
	}
	b := &box{outer: x.outer}
	if x.outer == nil {
		x.whole = b
	} else {
		x.outer.parts = append(x.outer.parts, b)
	}
	switch c := x.s[x.at]; c {
	case '[', '{':
		x.at++
		b.n.Kind = map[byte]int{'[': jtree.KList, '{': jtree.KObj}[c]
		x.place = map[byte]place{'[': aNodeOrClosing, '{': aKeyOrClosing}[c]
		x.outer = b
		return
	case '"':
		b.n = str(x.quoted())
	case 'n', 't', 'f':
		b.n.Kind = x.word(map[byte]string{'n': "null", 't': "true", 'f': "false"}[c])
	default:
		b.n = num(x.number())
	}
	x.leave()
}

func (x *second) word(s string) int {
	for i := range len(s) {
		if !strings.HasPrefix(x.rest(), s[:i+1]) {
			x.fail(x.at+i, api.ErrJson)
			return 0
		}
	}
	x.at += len(s)
	return map[string]int{"null": jtree.KNull, "true": jtree.KTrue, "false": jtree.KFalse}[s]
}

func (x *second) number() string {
	start := x.at
	s := startOfNumber.FindString(x.rest())
	if s == "" {
		x.fail(x.at+1, api.ErrJson)
		return ""
	}
	if len(strings.TrimPrefix(s, "-")) > 40 {
		x.fail(start, api.ErrJson)
	}
	x.at += len(s)
	return s
}

func (x *second) quoted() string {
	start := x.at
	s := startOfString.FindString(x.rest())
	x.at += len(s)
	switch {
	case x.rest() == "" || x.rest() == `\`:
		x.fail(len(x.s), api.ErrJson)
		return ""
	case x.rest()[0] != '"':
		x.fail(start, api.ErrJson)
		return ""
	case !utf8.ValidString(s):
		x.fail(start, api.ErrJson)
		return ""
	}
	x.at++
	var value string
	if err := json.Unmarshal([]byte(s+`"`), &value); err != nil {
		panic(err)
	}
	return value
}

// secondCheck is what Check returns: depth by depth.
func secondCheck(n jtree.Node) api.Errno {
	many := 0
	for deep, level := 1, []jtree.Node{n}; len(level) > 0; deep++ {
		many += len(level)
		if deep > 60 || many > 4000 {
			return api.ErrArg
		}
		var next []jtree.Node
		for _, n := range level {
			if !secondHas(n) {
				return api.ErrArg
			}
			next = append(next, n.L...)
		}
		level = next
	}
	return api.OK
}

// secondHas tells whether a node has the fields of the chapter's table.
func secondHas(n jtree.Node) bool {
	if n.Kind < 1 || n.Kind > 7 {
		return false
	}
	// Which fields there are: S, Keys, L.
	mayHave := [][3]bool{{}, {}, {}, {true}, {true}, {2: true}, {1: true, 2: true}}[n.Kind-1]
	for i, size := range []int{len(n.S), len(n.Keys), len(n.L)} {
		if size > 0 && !mayHave[i] {
			return false
		}
	}
	for i, key := range n.Keys {
		if !utf8.ValidString(key) || slices.Contains(n.Keys[:i], key) {
			return false
		}
	}
	switch n.Kind {
	case jtree.KNum:
		return wholeNumber.MatchString(n.S)
	case jtree.KObj:
		return len(n.Keys) == len(n.L)
	}
	return utf8.ValidString(n.S)
}

// inQuotes writes strings.
var inQuotes = func() *strings.Replacer {
	pairs := []string{`"`, `\"`, `\`, `\\`, "\b", `\b`, "\f", `\f`, "\n", `\n`, "\r", `\r`, "\t", `\t`}
	for c := range 0x20 {
		if s := string(rune(c)); !slices.Contains(pairs, s) {
			pairs = append(pairs, s, fmt.Sprintf(`\u%04x`, c))
		}
	}
	return strings.NewReplacer(pairs...)
}()

// secondText is what Text returns of a valid node.
func secondText(n jtree.Node) string {
	var parts []string
	for i, part := range n.L {
		s := secondText(part)
		if n.Kind == jtree.KObj {
			s = `"` + inQuotes.Replace(n.Keys[i]) + `":` + s
		}
		parts = append(parts, s)
	}
	inside := strings.Join(parts, ",")
	return []string{"null", "false", "true", n.S, `"` + inQuotes.Replace(n.S) + `"`, "[" + inside + "]", "{" + inside + "}"}[n.Kind-1]
}

// likeSecond checks that a text is read as by the second parser, and what is read by
// the second checker and the second writer. It tells whether the text is valid.
func likeSecond(t *testing.T, s string) bool {
	t.Helper()
	n, at, e := jtree.Parse(s)
	wantN, wantAt, want := secondParse(s)
	if e != want || at != wantAt || !equal(n, wantN) {
		t.Fatalf("%.1000q is read as %s, %d, %d, want %s, %d, %d", s, told(n), at, e, told(wantN), wantAt, want)
	}
	if e == api.OK {
		likeSecondNode(t, n)
		if jtree.Check(n) != api.OK {
			t.Fatalf("%s, of %.1000q, is not valid", told(n), s)
		}
	}
	return e == api.OK
}

// likeSecondNode checks that a node is what it is for the second checker, and its text.
func likeSecondNode(t *testing.T, n jtree.Node) bool {
	t.Helper()
	want := secondCheck(n)
	if e := jtree.Check(n); e != want {
		t.Fatalf("Check(%s): %d, want %d", told(n), e, want)
	}
	s, e := jtree.Text(n)
	if e != want || e == api.OK && s != secondText(n) || e != api.OK && s != "" {
		t.Fatalf("Text(%s): %.1000q, %d", told(n), s, e)
	}
	return want == api.OK
}

// libraryAt is where the library of Go breaks off in a text, which is at the first byte
// with which the text cannot be the beginning of any valid one. It takes other numbers
// and strings, too; -1 if it takes the text.
func libraryAt(s string) int {
	var v any
	var wrong *json.SyntaxError
	switch err := json.Unmarshal([]byte(s), &v); {
	case err == nil:
		return -1
	case !errors.As(err, &wrong):
		panic(err)
	case strings.HasPrefix(wrong.Error(), "unexpected end"):
		return len(s)
	}
	return int(wrong.Offset) - 1
}

// P14.2: all short texts, against the second parser. Where strings and numbers cannot
// be wrong, an error is where the library of Go breaks off, too.
func TestShortTexts(t *testing.T) {
	t.Parallel()
	for _, c := range []struct {
		alphabet  string
		size      int
		isLibrary bool
	}{
		{`[],1 `, 6, true}, {`{}:,"[]`, 6, false}, {`{"}a:1`, 7, false}, {`{["]}:,-0 `, 5, false}, {"-019 \n", 6, true},
		{`"\u0dD`, 6, false}, {`"\\/bfnrtuxaA'`, 4, false}, {"\"a\x1f\x20\x7f\x80\xc3\xa4\xff", 5, false},
		{"nul", 6, true}, {"tru e", 6, true}, {"false", 6, true}, {"1\t\n\v\f\r \x00", 4, true}, {"1\x85\xa0\xc2\xbb\xbf\xef\u2028", 4, false},
	} {
		valid := 0
		everyString(c.alphabet, c.size, func(s string) {
			if likeSecond(t, s) {
				valid++
			}
			if _, at, e := jtree.Parse(s); c.isLibrary && (e == api.OK && libraryAt(s) >= 0 || e != api.OK && libraryAt(s) != at) {
				t.Fatalf("%q: the library breaks off at %d", s, libraryAt(s))
			}
		})
		if valid == 0 {
			t.Errorf("no text of %q is valid", c.alphabet)
		}
	}
}

// P14.2: all short texts of longer pieces.
func TestTextsOfPieces(t *testing.T) {
	t.Parallel()
	pieces := []string{`{`, `}`, `[`, `]`, `,`, `:`, `"a"`, `"\u0061"`, `"b"`, `1`, `null`, " "}
	var next func(s string, count int)
	valid := 0
	next = func(s string, count int) {
		if likeSecond(t, s) {
			valid++
		}
		if count > 0 {
			for _, piece := range pieces {
				next(s+piece, count-1)
			}
		}
	}
	next("", 5)
	for _, start := range []string{`{"a":1,`, `{"b":{"a":[`, `[{"a":1},`, `{"a":{"b":1},"b":2,`} {
		next(start, 4)
	}
	if valid < 100 {
		t.Errorf("only %d texts are valid", valid)
	}
}

// P14.2: where strings and numbers are right, an error in a random text is where the
// library of Go breaks off.
func TestLikeLibrary(t *testing.T) {
	t.Parallel()
	r := rand.New(rand.NewSource(1))
	wrong := 0
	for range 20000 {
		s := looseText(r, anyNode(r, 4), func(*rand.Rand, string) string {
			return `"` + pick(r, []string{"a", "b", ""}) + fmt.Sprint(r.Intn(1000000)) + `"`
		})
		b := []byte(s)
		for range 1 + r.Intn(2) {
			i := r.Intn(len(b) + 1)
			piece := pick(r, []string{"", "[", "]", "{", "}", ",", ":", " ", "1", "-", "n", "tr", "\v", "x"})
			b = slices.Replace(b, i, min(len(b), i+r.Intn(3)), []byte(piece)...)
		}
		s = string(b)
		if likeSecond(t, s) {
			continue
		}
		wrong++
		_, at, _ := jtree.Parse(s)
		if libraryAt(s) != at && !isOwnError(s, at) {
			t.Fatalf("%q: an error at %d, the library breaks off at %d", s, at, libraryAt(s))
		}
	}
	if wrong < 10000 {
		t.Errorf("only %d texts were wrong", wrong)
	}
}

// isOwnError tells whether the library goes on at an error: one of a key, or of a number
// that has too many digits or an exponent.
func isOwnError(s string, at int) bool {
	return at < len(s) && (s[at] == '"' || s[at] == 'e' || len(startOfNumber.FindString(s[at:])) > 40)
}
