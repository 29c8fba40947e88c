package text_test

import (
	"bytes"
	"fmt"
	"math"
	"math/rand"
	"slices"
	"sync"
	"testing"

	"signetry/api"
	"signetry/text"
)

// P2.4: Rune appends nothing to the memory it is handed.
func TestRuneMemory(t *testing.T) {
	for _, n := range []int{0x41, 0xE4, 0x20AC, 0x1F600} {
		b := roomy([]byte("ab"))
		got, e := text.Rune(b, n)
		if e != api.OK || !untouched(b, []byte("ab")) {
			t.Fatalf("Rune(%x): error %d, the argument is %x", n, e, b[:cap(b)])
		}
		scribble(b)
		if want := append([]byte("ab"), encoded(n)...); !bytes.Equal(got, want) {
			t.Errorf("Rune(%x): the result became %x", n, got)
		}
		b = roomy([]byte("ab"))
		scribble(got)
		again, _ := text.Rune(b, n)
		scribble(again)
		if !untouched(b, []byte("ab")) {
			t.Errorf("Rune(%x): the argument has the result's memory", n)
		}
	}
	b := roomy([]byte("ab"))
	first, _ := text.Rune(b, 1)
	second, _ := text.Rune(b, 2)
	if first[2] != 1 || second[2] != 2 {
		t.Errorf("results share memory: %x, %x", first, second)
	}
	if _, e := text.Rune(b, -1); e != api.ErrUtf || !untouched(b, []byte("ab")) {
		t.Errorf("error %d, the argument is %x", e, b[:cap(b)])
	}
}

// P2.4: Valid, Runes and Quote only read.
func TestReadOnly(t *testing.T) {
	for _, s := range []string{"", "a\xE2\x82\xAC", "a\xff", "\"\n\x00"} {
		b := roomy([]byte(s))
		text.Valid(b)
		l, _, _ := text.Runes(b)
		q := text.Quote(b)
		if !untouched(b, []byte(s)) {
			t.Errorf("%x became %x", s, b[:cap(b)])
		}
		keep, want := slices.Clone(l), quoted([]byte(s))
		scribble(b)
		if !slices.Equal(l, keep) || q != want {
			t.Errorf("%x: the results became %x, %s", s, l, q)
		}
	}
}

// P2.4: each call of Unquote and Runes returns memory of its own.
func TestNewResults(t *testing.T) {
	for _, s := range []string{`"abc"`, `"a\n\x41\101\u20AC"`, `''`} {
		first, _ := text.Unquote(s)
		want := slices.Clone(first)
		second, e := text.Unquote(s)
		scribble(first)
		if e != api.OK || !bytes.Equal(second, want) {
			t.Errorf("%s: a result became %q", s, second)
		}
		if third, e := text.Unquote(s); e != api.OK || !bytes.Equal(third, want) {
			t.Errorf("%s: later %q, %d", s, third, e)
		}
	}
	first, _, _ := text.Runes([]byte("ab"))
	second, _, _ := text.Runes([]byte("ab"))
	first[0], first[1] = 0, 0
	if !slices.Equal(second, []int{'a', 'b'}) {
		t.Errorf("a result became %x", second)
	}
}

// R1: no call panics, whatever it is given; and an error is one of the layer.
func TestNoPanic(t *testing.T) {
	r := rand.New(rand.NewSource(1))
	ints := []int{math.MinInt, -1 << 32, -1, 0, 0x41, 0xD800, 0xFFFF, 0x10FFFF, 0x110000, 1 << 32, math.MaxInt}
	known := []api.Errno{api.OK, api.ErrUtf, api.ErrQuote}
	for range 50000 {
		s := anyString(r, r.Intn(20))
		b := anyBytes(r, r.Intn(20))
		for _, s := range []string{s, string(b), `"` + s, `"` + s + `"`, `'\` + s + `'`} {
			_, at, utf := text.Runes([]byte(s))
			_, quote := text.Unquote(s)
			_, made := text.Rune([]byte(s), ints[r.Intn(len(ints))]+r.Intn(3)-1)
			if !slices.Contains(known, utf) || !slices.Contains(known, quote) || !slices.Contains(known, made) || at < 0 || at > len(s) {
				t.Fatalf("%q: errors %d, %d, %d, at %d", s, utf, quote, made, at)
			}
			text.Valid([]byte(s))
			text.IsIdent(s)
			text.IsFull(s)
			text.Key(s)
			text.Quote([]byte(s))
		}
	}
}

// R2: a call returns the same again, after other calls and beside them.
func TestSameResultAgain(t *testing.T) {
	r := rand.New(rand.NewSource(2))
	var inputs, results []string
	for range 500 {
		s := anyString(r, r.Intn(12))
		for _, s := range []string{s, text.Quote([]byte(s))} {
			inputs, results = append(inputs, s), append(results, told(s))
		}
	}
	var wait sync.WaitGroup
	for range 4 {
		wait.Go(func() {
			for i, s := range inputs {
				if told(s) != results[i] {
					t.Errorf("%q: another result", s)
				}
			}
		})
	}
	wait.Wait()
}

// told is the results of calls for s, as a text that can be compared.
func told(s string) string {
	b := []byte(s)
	l, at, e := text.Runes(b)
	value, f := text.Unquote(s)
	more, g := text.Rune(b, len(s)*0x1000)
	return fmt.Sprint(text.Valid(b), l, at, e, value, f, more, g, text.IsIdent(s), text.IsFull(s), text.Key(s), text.Quote(b))
}
