package lex_test

import (
	"fmt"
	"math/rand"
	"slices"
	"strings"
	"sync"
	"testing"
	"unsafe"

	"signetry/api"
	"signetry/lex"
)

// loose is a string whose memory can be overwritten behind its back, which
// shows whether a result shares it.
func loose(s string) (string, func()) {
	b := []byte(s)
	return unsafe.String(unsafe.SliceData(b), len(b)), func() {
		for i := range b {
			b[i] = '!'
		}
	}
}

// P3.3: the tokens do not share the memory of the text.
func TestWordsMemory(t *testing.T) {
	const s = `message M{x y=0x1F;}'ab' "" . 'a\n'// c`
	text, spoil := loose(s)
	l, _, e := lex.Words(text)
	if text != s {
		t.Errorf("the argument became %q", text)
	}
	want, _, _ := lex.Words(s)
	spoil()
	if e != api.OK || !slices.Equal(l, want) {
		t.Errorf("the result became %v, want %v", l, want)
	}
}

// P3.3: two results do not share memory, nor does a later one.
func TestNewResults(t *testing.T) {
	const s = "a = 1;"
	first, _, _ := lex.Words(s)
	second, _, _ := lex.Words(s)
	want := slices.Clone(second)
	first = first[:cap(first)]
	for i := range first {
		first[i] = num(-1, "?", -1)
	}
	if !slices.Equal(second, want) {
		t.Errorf("a result became %v", second)
	}
	splits(t, s, want...)
}

// P3.3: Join only reads, and its text is its own.
func TestJoinMemory(t *testing.T) {
	for _, kind := range []int{api.WordIdent, api.WordLit} {
		text, spoil := loose("abc")
		l := []api.Word{{Kind: kind, At: 3, Text: text, N: 5}, ident(1, "x"), ident(0, "y")}
		keep := []api.Word{{Kind: kind, At: 3, Text: "abc", N: 5}, ident(1, "x"), ident(0, "y")}
		alone, both := lex.Join(l[:1]), lex.Join(l[:2])
		if !slices.Equal(l, keep) {
			t.Errorf("the argument became %v", l)
		}
		spoil()
		if want := lex.Join(keep[:1]); alone != want || both != want+" x" {
			t.Errorf("the results became %q, %q", alone, both)
		}
	}
}

// R1: no call panics, whatever it is given; what it says of a text is within it.
func TestNoPanic(t *testing.T) {
	r := rand.New(rand.NewSource(1))
	known := []api.Errno{api.OK, api.ErrRange, api.ErrQuote, api.ErrWord}
	for range 50000 {
		b := make([]byte, r.Intn(20))
		r.Read(b)
		for _, s := range []string{string(b), anyText(r, r.Intn(20)), "'" + anyText(r, r.Intn(6)), "/*" + anyText(r, r.Intn(6)), "0" + anyText(r, r.Intn(6))} {
			l, at, e := lex.Words(s)
			if !slices.Contains(known, e) || at < 0 || at > len(s) || e == api.OK != (len(l) > 0) || e == api.OK && at != 0 {
				t.Fatalf("Words(%q): %v, %d, %d", s, l, at, e)
			}
			lex.Join(append(l, api.Word{Kind: r.Int() - r.Int(), At: -r.Int(), Text: s, N: r.Int()}))
		}
	}
}

// R1: texts of the greatest size take no longer than their size asks for.
func TestGreatTexts(t *testing.T) {
	for _, part := range []string{"''", "'a'\n", "'\\''", "/**/", "//\n", "/*/*/", "//", "/*", "a ", "1 ", "0", "0x", "'", "\\", "\n", "-", "/", "*"} {
		s := strings.Repeat(part, api.MaxText/len(part))
		l, _, _ := lex.Words(s)
		lex.Join(l)
		fails(t, s+strings.Repeat(" ", len(part)), 0, api.ErrLimit)
	}
}

// R2: a call returns the same again, after other calls and beside them.
func TestSameResultAgain(t *testing.T) {
	r := rand.New(rand.NewSource(2))
	var inputs, results []string
	for range 500 {
		for _, s := range []string{anyText(r, r.Intn(12)), anyTokens(r, r.Intn(6))} {
			inputs, results = append(inputs, s), append(results, told(s))
		}
	}
	var wait sync.WaitGroup
	for range 4 {
		wait.Go(func() {
			for i, s := range inputs {
				if told(s) != results[i] {
					t.Errorf("%q: another result", s)
				}
			}
		})
	}
	wait.Wait()
}

// told is the results of calls for s, as a text that can be compared.
func told(s string) string {
	l, at, e := lex.Words(s)
	return fmt.Sprintf("%v %d %d %q %q", l, at, e, lex.Join(l), lex.Join([]api.Word{lit(0, s), ident(0, s)}))
}
