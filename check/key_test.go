package check_test

import (
	"strings"
	"testing"

	"signetry/api"
	"signetry/check"
)

// P8.2: the key is Json, or made of the name if there is none.
func TestKey(t *testing.T) {
	for _, c := range []struct{ name, json, want string }{
		{"a", "", "a"}, {"foo_bar_2x", "", "fooBar2x"}, {"_a__b", "", "AB"}, {"_", "", ""}, {"__", "", ""}, {"", "", ""}, {"A_B", "", "AB"}, {"a_1", "", "a1"},
		{"a", "b", "b"}, {"foo_bar", "foo_bar", "foo_bar"}, {"foo_bar", "_", "_"}, {"", "k", "k"}, {"_", "a b", "a b"}, {"a", "\x00", "\x00"}, {"a", "\xff_a", "\xff_a"},
		{"a-_b", "", "a-B"}, {"\xff_\xff_a", "", "\xff\xffA"}, {strings.Repeat("a_", 100), "", "a" + strings.Repeat("A", 99)}, {"a", strings.Repeat("k", 100), strings.Repeat("k", 100)},
	} {
		if got := check.Key(api.FieldDef{Name: c.name, Json: c.json}); got != c.want {
			t.Errorf("the key of %q, %q is %q, want %q", c.name, c.json, got, c.want)
		}
	}
}

// P8.2: nothing else of a field counts.
func TestKeyOfAnyField(t *testing.T) {
	f := api.FieldDef{Name: "foo_bar", Type: "a_b", Key: "c_d", Card: -1, Num: -1, Oneof: -7, At: 1, TypeAt: 2, NumAt: 3}
	if got := check.Key(f); got != "fooBar" {
		t.Errorf("it is %q", got)
	}
	f.Json = "e_f"
	if got := check.Key(f); got != "e_f" {
		t.Errorf("it is %q", got)
	}
}

// P8.2: keys of 0, 1, 32 and 33 bytes.
func TestLengths(t *testing.T) {
	for n := range 300 {
		for _, c := range []string{"a", "Z", "0", "_"} {
			if got := check.IsKey(strings.Repeat(c, n)); got != (n >= 1 && n <= 32) {
				t.Errorf("%d times %s: %t", n, c, got)
			}
		}
	}
}

// P8.2: each byte, alone, and in each place of a key.
func TestBytes(t *testing.T) {
	const allowed = "ABCDEFGHIJKLMNOPQRSTUVWXYZabcdefghijklmnopqrstuvwxyz0123456789_"
	for c := range 256 {
		want := strings.IndexByte(allowed, byte(c)) >= 0
		s := string([]byte{byte(c)})
		if got := check.IsKey(s); got != want {
			t.Errorf("%q: %t", s, got)
		}
		for i := range 32 {
			s := strings.Repeat("k", i) + s + strings.Repeat("9", 31-i)
			if got := check.IsKey(s); got != want {
				t.Errorf("%q: %t", s, got)
			}
		}
	}
	for _, s := range []string{"ä", "a.b", "a-b", "a b", " a", "a\n", "ａ", "٣", "a\x00", "\"a\""} {
		if check.IsKey(s) {
			t.Errorf("%q is a key", s)
		}
	}
	for _, s := range []string{"1", "1a", "_", "__", "a_b", "reserved", "int32", "0_0"} {
		if !check.IsKey(s) {
			t.Errorf("%q is no key", s)
		}
	}
}
