package lex_test

import (
	"math/rand"
	"regexp"
	"slices"
	"strings"
	"testing"

	"signetry/api"
	"signetry/lex"
	"signetry/text"
)

// onlyGap is blanks and comments throughout; a comment that a line feed ends
// has one, unless the text ends there.
var onlyGap = regexp.MustCompile(`^(?:[ \t\r\n]|//[^\n]*\n|/\*(?s:.*?)\*/)*$`)

// tokenEnd is the offset behind a token, read off the text itself.
func tokenEnd(s string, w api.Word) (int, bool) {
	if w.Kind != api.WordLit {
		return w.At + len(w.Text), strings.HasPrefix(s[w.At:], w.Text)
	}
	for i := w.At + 2; i <= len(s); i++ {
		if value, e := text.Unquote(s[w.At:i]); e == api.OK {
			return i, string(value) == w.Text
		}
	}
	return 0, false
}

// placed checks P3.5 for a text, if it has tokens.
func placed(t *testing.T, s string) {
	t.Helper()
	l, _, e := lex.Words(s)
	if e != api.OK {
		return
	}
	from := 0
	for i, w := range l {
		last := i == len(l)-1
		if last != (w.Kind == api.WordEnd) || last && (w.At != len(s) || w.Text != "") {
			t.Fatalf("%q: token %d of %v", s, i, l)
		}
		if w.At < from {
			t.Fatalf("%q: token %d of %v is not behind the one before it, which ends at %d", s, i, l, from)
		}
		gap := s[from:w.At]
		if last {
			gap += "\n"
		}
		if !onlyGap.MatchString(gap) {
			t.Fatalf("%q: %q ahead of token %d of %v", s, gap, i, l)
		}
		behind, ok := tokenEnd(s, w)
		if !ok {
			t.Fatalf("%q: token %d of %v is not at its offset", s, i, l)
		}
		from = behind
	}
}

// P3.5: each token is at its offset, and nothing is passed over between them.
func TestPlaces(t *testing.T) {
	for s := range everyText(tokens(), 2) {
		placed(t, s)
	}
	for s := range everyText([]string{"/", "*", "\n", "a", "'", " "}, 6) {
		placed(t, s)
	}
	r := rand.New(rand.NewSource(35))
	for range 5000 {
		placed(t, anyTokens(r, r.Intn(20)))
		placed(t, anyText(r, r.Intn(10)))
	}
}

// spaced is a text with more blanks and comments ahead of its tokens and behind
// them, and its tokens with the offsets that they have there.
func spaced(r *rand.Rand, s string, l []api.Word) (string, []api.Word) {
	more := func() string {
		if r.Intn(2) == 0 {
			return ""
		}
		return pick(r, gaps())
	}
	var out strings.Builder
	want := slices.Clone(l)
	from := 0
	for i, w := range l {
		out.WriteString(s[from:w.At])
		if w.Kind == api.WordEnd {
			// Nothing more: a comment that precedes the end would go on there.
			want[i].At = out.Len()
			break
		}
		out.WriteString(more())
		want[i].At = out.Len()
		from, _ = tokenEnd(s, w)
		out.WriteString(s[w.At:from])
		out.WriteString(more())
	}
	return out.String(), want
}

// P3.6: more blanks and comments between tokens change the offsets alone.
func TestMoreBlanks(t *testing.T) {
	r := rand.New(rand.NewSource(36))
	for range 10000 {
		for _, s := range []string{anyTokens(r, r.Intn(12)), anyText(r, r.Intn(10)), "a.b('c')=-1;// no", "{}[]()<>=;,.-''\"\""} {
			l, _, e := lex.Words(s)
			if e != api.OK {
				continue
			}
			wide, want := spaced(r, s, l)
			if got, at, e := lex.Words(wide); e != api.OK || at != 0 || !slices.Equal(got, want) {
				t.Fatalf("%q: %v; %q: %v, %d, %d, want %v", s, l, wide, got, at, e, want)
			}
		}
	}
}

// P3.6: each gap between each two tokens, instead of a blank.
func TestEveryGap(t *testing.T) {
	for _, first := range tokens() {
		for _, second := range tokens() {
			l, _, e := lex.Words(first + " " + second)
			if e != api.OK || len(l) != 3 {
				t.Fatalf("%q, %q: %v, %d", first, second, l, e)
			}
			for _, gap := range gaps() {
				got, _, e := lex.Words(gap + first + gap + second + gap)
				if e != api.OK || !slices.Equal(bare(got), bare(l)) || got[0].At != len(gap) || got[1].At != 2*len(gap)+len(first) {
					t.Fatalf("%q, %q, %q: %v, %d", gap, first, second, got, e)
				}
			}
		}
	}
}
