package lex_test

import (
	"math/big"
	"math/rand"
	"regexp"
	"slices"
	"strings"
	"testing"

	"signetry/api"
	"signetry/lex"
	"signetry/text"
)

// The chapter's table, as expressions that are tried at the start of what remains.
var (
	gapLook     = regexp.MustCompile(`^(?:[ \t\r\n]|//[^\n]*|/\*(?s:.*?)\*/)+`)
	identLook   = regexp.MustCompile(`^[A-Za-z_][A-Za-z0-9_]*`)
	digitsLook  = regexp.MustCompile(`^[0-9][A-Za-z0-9_]*`)
	numberLook  = regexp.MustCompile(`^(?:0|[1-9][0-9]*|0[0-7]+|0[xX][0-9A-Fa-f]+)$`)
	literalLook = regexp.MustCompile(`^(?:"(?:[^"\\\n]|\\[^\n])*"|'(?:[^'\\\n]|\\[^\n])*')`)
	signLook    = regexp.MustCompile(`^[{}\[\]()<>=;,.-]`)
)

// secondWords is Words by other means.
func secondWords(s string) (l []api.Word, at int, e api.Errno) {
	for {
		at += len(gapLook.FindString(s[at:]))
		rest := s[at:]
		if rest == "" {
			return append(l, end(at)), 0, api.OK
		}
		var w api.Word
		size := 0
		switch {
		case identLook.MatchString(rest):
			w = ident(at, identLook.FindString(rest))
			if size = len(w.Text); size > 32 {
				return nil, at, api.ErrWord
			}
		case digitsLook.MatchString(rest):
			w = num(at, digitsLook.FindString(rest), 0)
			size = len(w.Text)
			if w.N, e = secondNumber(w.Text); e != api.OK {
				return nil, at, e
			}
		case rest[0] == '"' || rest[0] == '\'':
			value, e := text.Unquote(literalLook.FindString(rest))
			if e != api.OK {
				return nil, at, e
			}
			w, size = lit(at, string(value)), len(literalLook.FindString(rest))
		case signLook.MatchString(rest):
			w, size = sign(at, rest[:1]), 1
		default:
			return nil, at, api.ErrWord
		}
		l, at = append(l, w), at+size
	}
}

func secondNumber(s string) (int, api.Errno) {
	if !numberLook.MatchString(s) {
		return 0, api.ErrWord
	}
	// The library's own prefixes are those of the chapter; its others, and its
	// underscores, the expression has ruled out.
	n, _ := new(big.Int).SetString(s, 0)
	if n.Cmp(big.NewInt(1<<31)) > 0 {
		return 0, api.ErrRange
	}
	return int(n.Int64()), api.OK
}

func agree(t *testing.T, s string) {
	t.Helper()
	l, at, e := lex.Words(s)
	wantL, wantAt, wantE := secondWords(s)
	if !slices.Equal(l, wantL) || at != wantAt || e != wantE {
		t.Fatalf("Words(%q): %v, %d, %d, want %v, %d, %d", s, l, at, e, wantL, wantAt, wantE)
	}
}

// P3.1: all short texts of what the parts of the chapter are made of.
func TestEveryShortText(t *testing.T) {
	for _, family := range []struct {
		pieces string
		most   int
	}{
		{"/*\n'a", 6}, {`'"\n` + "\n", 6}, {"0178xXaF_g", 4}, {"a0.-;/ \t\r\n", 4}, {bytesOfWeight, 2},
	} {
		for s := range everyText(strings.Split(family.pieces, ""), family.most) {
			agree(t, s)
		}
	}
}

// P3.1: long texts, among them such with a single error.
func TestRandomTexts(t *testing.T) {
	r := rand.New(rand.NewSource(31))
	for range 20000 {
		agree(t, anyText(r, r.Intn(24)))
		s := anyTokens(r, r.Intn(12))
		agree(t, s)
		if s != "" {
			i := r.Intn(len(s))
			agree(t, s[:i])
			agree(t, s[:i]+anyText(r, 1)+s[i+1:])
		}
	}
}
