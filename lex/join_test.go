package lex_test

import (
	"math/rand"
	"slices"
	"strings"
	"testing"

	"signetry/api"
	"signetry/lex"
	"signetry/text"
)

// joins checks the text of tokens.
func joins(t *testing.T, want string, l ...api.Word) {
	t.Helper()
	if got := lex.Join(l); got != want {
		t.Errorf("Join(%v): %q, want %q", l, got, want)
	}
}

// P3.2: texts, one blank between two of them, literals as canonical ones.
func TestJoin(t *testing.T) {
	joins(t, "")
	joins(t, "a", ident(0, "a"))
	joins(t, "a b", ident(0, "a"), ident(9, "b"))
	joins(t, "a = 0x1F ;", ident(0, "a"), sign(0, "="), num(0, "0x1F", 31), sign(0, ";"))
	joins(t, `"a"`, lit(0, "a"))
	joins(t, `"a\"\000\377\n" "'" "\\"`, lit(0, "a\"\x00\xff\n"), lit(0, "'"), lit(0, `\`))
	joins(t, `. . - 1`, sign(7, "."), sign(3, "."), sign(1, "-"), num(1, "1", 1))
	if l, _, e := lex.Words("a=/* c */'b\\n'  ;// c"); e != api.OK || lex.Join(l) != `a = "b\n" ;` {
		t.Errorf("%q, %d", lex.Join(l), e)
	}
}

// P3.2: what has no text is left out, with its blank; but a literal may be empty.
func TestJoinOmits(t *testing.T) {
	joins(t, "", end(0))
	joins(t, "", ident(0, ""), sign(0, ""), num(0, "", 7), end(5))
	joins(t, `""`, lit(0, ""))
	joins(t, `"" ""`, lit(0, ""), lit(0, ""))
	joins(t, `a "" b`, ident(0, "a"), lit(0, ""), ident(0, "b"))
	joins(t, "a b", ident(0, "a"), ident(0, ""), num(0, "", 3), end(0), ident(0, "b"), end(3))
	joins(t, "b", end(0), sign(0, ""), ident(0, "b"))
}

// P3.2: tokens that no text has are joined by the same rule.
func TestJoinAnything(t *testing.T) {
	joins(t, "end a", api.Word{Kind: api.WordEnd, Text: "end"}, ident(0, "a"))
	joins(t, "x y z", api.Word{Kind: -1, Text: "x"}, api.Word{Kind: 99, Text: "y", N: 5}, api.Word{Kind: 4, At: -7, Text: "z"})
	joins(t, "a b  c", ident(0, "a b"), sign(0, " c"))
	joins(t, "\" \n\xff \"\\n\"", sign(0, "\""), ident(0, "\n\xff"), lit(0, "\n"))
	joins(t, "7", num(0, "7", 8))
}

// splitAgain checks P3.4 for the tokens of a text.
func splitAgain(t *testing.T, s string) {
	t.Helper()
	l, _, e := lex.Words(s)
	joined := lex.Join(l)
	if e != api.OK || len(joined) > api.MaxText {
		return
	}
	again, at, e := lex.Words(joined)
	if e != api.OK || at != 0 || !slices.Equal(bare(again), bare(l)) {
		t.Fatalf("%q is joined as %q: %v, %d, %d, want %v", s, joined, again, at, e, l)
	}
	if lex.Join(again) != joined || lex.Join(l[:len(l)-1]) != joined {
		t.Fatalf("%q is joined as %q, then as %q", s, joined, lex.Join(again))
	}
}

// P3.4: joined tokens are split into the same tokens.
func TestJoinedAreSplit(t *testing.T) {
	for s := range everyText(tokens(), 2) {
		splitAgain(t, s)
	}
	for s := range everyText([]string{"'", `"`, `\`, "n", " ", "1"}, 6) {
		splitAgain(t, s)
	}
	r := rand.New(rand.NewSource(34))
	for range 5000 {
		splitAgain(t, anyTokens(r, r.Intn(20)))
		splitAgain(t, anyText(r, r.Intn(10)))
	}
}

// P3.4: literals of all bytes, each of which Quote writes in its own way.
func TestJoinedLiterals(t *testing.T) {
	for i := range 256 {
		for _, value := range []string{string([]byte{byte(i)}), string([]byte{'7', byte(i), '7', byte(i)})} {
			splitAgain(t, text.Quote([]byte(value)))
			want := []api.Word{lit(0, value), lit(0, value), end(0)}
			if l, _, e := lex.Words(lex.Join(want)); e != api.OK || !slices.Equal(bare(l), want) {
				t.Errorf("%q: %v, %d", value, l, e)
			}
		}
	}
}

// P3.4: as long as the joined text is no longer than a text may be.
func TestJoinedLimit(t *testing.T) {
	const half = api.MaxText / 2
	splitAgain(t, strings.Repeat(";", half))
	l, _, e := lex.Words(strings.Repeat(";", half+1))
	if e != api.OK || len(lex.Join(l)) != api.MaxText+1 {
		t.Fatalf("%d bytes, %d", len(lex.Join(l)), e)
	}
	fails(t, lex.Join(l), 0, api.ErrLimit)
}
