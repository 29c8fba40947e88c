package text_test

import (
	"math/rand"
	"regexp"
	"strings"
	"testing"

	"signetry/api"
	"signetry/text"
)

const (
	letters = "abcdefghijklmnopqrstuvwxyzABCDEFGHIJKLMNOPQRSTUVWXYZ"
	digits  = "0123456789"
)

// P2.2: each byte, as the first, a middle and the last one of an identifier.
func TestIdentBytes(t *testing.T) {
	for i := range 256 {
		c := string([]byte{byte(i)})
		first := strings.Contains(letters+"_", c)
		later := first || strings.Contains(digits, c)
		for s, want := range map[string]bool{c: first, c + "a": first, "a" + c: later, "a" + c + "a": later} {
			if text.IsIdent(s) != want {
				t.Errorf("IsIdent(%q) = %v", s, !want)
			}
		}
	}
}

// P2.2: identifiers have 1 to MaxIdent bytes.
func TestIdentLength(t *testing.T) {
	if text.IsIdent("") {
		t.Error("no bytes are an identifier")
	}
	for size := 1; size < 100; size++ {
		for _, s := range []string{strings.Repeat("a", size), strings.Repeat("_", size), "Z" + strings.Repeat("9", size-1)} {
			if got, want := text.IsIdent(s), size <= 32; got != want || text.IsFull(s) != want {
				t.Errorf("IsIdent, IsFull(%s) = %v, %v", s, got, text.IsFull(s))
			}
		}
	}
	for _, s := range []string{"äb", "aä", "a.b", " a", "a ", "a-b", "a\x00"} {
		if text.IsIdent(s) {
			t.Errorf("IsIdent(%q)", s)
		}
	}
}

// P2.2: full names are identifiers with periods between them.
func TestFull(t *testing.T) {
	for s, want := range map[string]bool{
		"": false, ".": false, "..": false, "a": true, "_": true, "a.": false, ".a": false, "a..b": false, "a.b": true,
		"a.b.": false, ".a.b": false, "a.1": false, "1.a": false, "a.b1._": true, "a.b-c": false, "a. b": false, "a.b\n": false,
		"a.b.c.d.e.f.g.h.i.j": true, "a,b": false, "ä.b": false, "a.\xff": false,
		strings.Repeat("a", 32) + "." + strings.Repeat("b", 32): true,
		strings.Repeat("a", 33) + ".b":                          false,
		"a." + strings.Repeat("b", 33):                          false,
	} {
		if text.IsFull(s) != want {
			t.Errorf("IsFull(%q) = %v", s, !want)
		}
	}
}

// P2.2: full names have at most MaxFull bytes.
func TestFullLength(t *testing.T) {
	longest := strings.Repeat(strings.Repeat("a", 32)+".", 3) + strings.Repeat("b", 29)
	if len(longest) != api.MaxFull || !text.IsFull(longest) {
		t.Errorf("IsFull(%s), %d bytes: %v", longest, len(longest), text.IsFull(longest))
	}
	if s := longest + "b"; text.IsFull(s) {
		t.Errorf("IsFull(%s), %d bytes", s, len(s))
	}
	short := strings.Repeat("a.", 63) + "bc"
	if len(short) != api.MaxFull || !text.IsFull(short) || text.IsFull(short+"d") || text.IsFull(short+".d") {
		t.Errorf("IsFull(%s)", short)
	}
}

// P2.2: all short strings, held against a pattern.
func TestNamesByPattern(t *testing.T) {
	full := regexp.MustCompile(`\A[a-zA-Z_][a-zA-Z_0-9]*(\.[a-zA-Z_][a-zA-Z_0-9]*)*\z`)
	everyString("aZ_0.-", 6, func(s string) {
		want := full.MatchString(s)
		if text.IsFull(s) != want || text.IsIdent(s) != (want && !strings.Contains(s, ".")) {
			t.Fatalf("IsFull, IsIdent(%q) = %v, %v", s, text.IsFull(s), text.IsIdent(s))
		}
	})
}

// P2.2: keys, of strings that are no names too.
func TestKey(t *testing.T) {
	for s, want := range map[string]string{
		"": "", "a": "a", "A": "A", "_": "", "___": "", "a_": "a", "a__": "a", "_a": "A", "__a": "A",
		"foo_bar": "fooBar", "foo__bar": "fooBar", "Foo_Bar": "FooBar", "fooBar": "fooBar", "a_B": "aB",
		"a_z": "aZ", "a_b_c": "aBC", "a_1": "a1", "a_1b": "a1b", "_1_b": "1B", "a_b_": "aB", "_2a": "2a",
		"a_.b": "a.b", "a._b": "a.B", "a_-b": "a-b", "a b_c": "a bC", "a_{": "a{", "a_`": "a`",
		"_\xc3\xa4": "\xc3\xa4", "\xff_a\xfe": "\xffA\xfe", "a_\xe1_b": "a\xe1B", "\x00_\x00": "\x00\x00",
	} {
		if got := text.Key(s); got != want {
			t.Errorf("Key(%q) = %q, want %q", s, got, want)
		}
	}
	for c := range 256 {
		b := byte(c)
		want := strings.ReplaceAll("x"+string([]byte{b}), "_", "")
		if b >= 'a' && b <= 'z' {
			want = "x" + strings.ToUpper(string([]byte{b}))
		}
		if got := text.Key("x_" + string([]byte{b})); got != want {
			t.Errorf("Key(x_, %x) = %q, want %q", b, got, want)
		}
	}
}

// P2.2: keys of all short strings, by another definition.
func TestKeyByPattern(t *testing.T) {
	part := regexp.MustCompile(`_+[a-z]?`)
	second := func(s string) string {
		return part.ReplaceAllStringFunc(s, func(s string) string {
			return strings.ToUpper(strings.Trim(s, "_"))
		})
	}
	everyString("az_A0.\xe1", 6, func(s string) {
		if got, want := text.Key(s), second(s); got != want {
			t.Fatalf("Key(%q) = %q, want %q", s, got, want)
		}
	})
	long := strings.Repeat("ab_cd__", 20000)
	if got, want := text.Key(long), second(long); got != want {
		t.Errorf("the key of %d bytes has %d, want %d", len(long), len(got), len(want))
	}
}

// P2.7: a key is its own key.
func TestKeyOfKey(t *testing.T) {
	everyString("ab_A1.\xff", 6, func(s string) {
		key := text.Key(s)
		if strings.Contains(key, "_") || text.Key(key) != key {
			t.Fatalf("the key of %q is %q, its key is %q", s, key, text.Key(key))
		}
	})
}

// named is the name of which an unambiguous name's key was made.
func named(key string) string {
	var name strings.Builder
	for _, c := range key {
		if c >= 'A' && c <= 'Z' {
			name.WriteByte('_')
			c += 'a' - 'A'
		}
		name.WriteRune(c)
	}
	return name.String()
}

// P2.7: unambiguous names can be reconstructed.
func TestNameFromKey(t *testing.T) {
	plain := regexp.MustCompile(`\A([a-z0-9]|_[a-z])*\z`)
	checked := 0
	everyString("abz_09", 7, func(s string) {
		if !plain.MatchString(s) {
			return
		}
		checked++
		if got := named(text.Key(s)); got != s {
			t.Fatalf("the key of %q is %q, from which comes %q", s, text.Key(s), got)
		}
	})
	if checked < 1000 {
		t.Errorf("only %d names", checked)
	}
	r := rand.New(rand.NewSource(27))
	for range 2000 {
		var s strings.Builder
		for range r.Intn(12) {
			if r.Intn(3) == 0 {
				s.WriteByte('_')
			} else if r.Intn(4) == 0 {
				s.WriteByte(digits[r.Intn(10)])
				continue
			}
			s.WriteByte(letters[r.Intn(26)])
		}
		if got := named(text.Key(s.String())); got != s.String() {
			t.Fatalf("the key of %q is %q, from which comes %q", s.String(), text.Key(s.String()), got)
		}
	}
}
