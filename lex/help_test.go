package lex_test

import (
	"iter"
	"math/rand"
	"slices"
	"strings"
	"testing"

	"signetry/api"
	"signetry/lex"
)

func ident(at int, s string) api.Word { return api.Word{Kind: api.WordIdent, At: at, Text: s} }
func lit(at int, s string) api.Word   { return api.Word{Kind: api.WordLit, At: at, Text: s} }
func sign(at int, s string) api.Word  { return api.Word{Kind: api.WordSign, At: at, Text: s} }
func end(at int) api.Word             { return api.Word{Kind: api.WordEnd, At: at} }
func num(at int, s string, n int) api.Word {
	return api.Word{Kind: api.WordNum, At: at, Text: s, N: n}
}

// splits checks that a text has these tokens.
func splits(t *testing.T, s string, want ...api.Word) {
	t.Helper()
	if l, at, e := lex.Words(s); e != api.OK || at != 0 || !slices.Equal(l, want) {
		t.Errorf("Words(%.80q): %v, %d, %d, want %v", s, l, at, e, want)
	}
}

// fails checks that a text has this error, there, and nothing beside it.
func fails(t *testing.T, s string, wantAt int, want api.Errno) {
	t.Helper()
	if l, at, e := lex.Words(s); e != want || at != wantAt || len(l) != 0 {
		t.Errorf("Words(%.80q): %v, %d, %d, want %d, %d", s, l, at, e, wantAt, want)
	}
}

// bare is tokens without their offsets.
func bare(l []api.Word) []api.Word {
	l = slices.Clone(l)
	for i := range l {
		l[i].At = 0
	}
	return l
}

// everyText is all texts of up to that many of the pieces.
func everyText(pieces []string, most int) iter.Seq[string] {
	return func(yield func(string) bool) {
		level := []string{""}
		for range most + 1 {
			var longer []string
			for _, s := range level {
				if !yield(s) {
					return
				}
				for _, p := range pieces {
					longer = append(longer, s+p)
				}
			}
			level = longer
		}
	}
}

// pick is one of some.
func pick(r *rand.Rand, some []string) string {
	return some[r.Intn(len(some))]
}

// bytesOfWeight is the bytes that mean something to this layer, and some others.
const bytesOfWeight = "abxXyZ_0017889fF\"\"''\\\\//**{}[]()<>=;,.-  \t\r\n\n#+:\x00\x0b\x7f\x80\xff"

// anyText is made of such bytes: hardly ever tokens throughout.
func anyText(r *rand.Rand, size int) string {
	b := make([]byte, size)
	for i := range b {
		b[i] = bytesOfWeight[r.Intn(len(bytesOfWeight))]
	}
	return string(b)
}

// tokens is texts that are exactly one token each.
func tokens() []string {
	return []string{
		"a", "_", "Z9", "x_1", "message", strings.Repeat("q", api.MaxIdent),
		"0", "7", "00", "017", "0x1F", "0X0", "2147483648", "000000000000000000000000000000000001",
		`""`, `''`, `"a"`, `'a b'`, `"\""`, `'\''`, `"\\"`, `'"'`, `"'"`, `"//"`, `'/*'`, `'\n\x41\101\u20AC'`, "'\xff\x7f'", `"#"`,
		"{", "}", "[", "]", "(", ")", "<", ">", "=", ";", ",", ".", "-",
	}
}

// gaps is texts that may be between any two tokens.
func gaps() []string {
	return []string{
		" ", "\t", "\r", "\n", "\r\n", " \t\n ", "// c\n", "//\n", "/**/", "/* c */", "/***/", "/* * / */", "/* // */",
		"// /*\n", "/* \n */", "/*'*/", "//\"\n", "/*\xff#*/", "// a\n// b\n", "/*/*/",
	}
}

// anyTokens is a text of tokens, with something between any two of them.
func anyTokens(r *rand.Rand, count int) string {
	some, between := tokens(), gaps()
	var out strings.Builder
	for range count {
		out.WriteString(pick(r, some))
		for range 1 + r.Intn(2) {
			out.WriteString(pick(r, between))
		}
	}
	return out.String()
}
