package tree_test

import (
	"strings"
	"testing"

	"signetry/api"
	"signetry/tree"
)

// nameOf is a name of that many bytes, of 33 to 1000000.
func nameOf(size int) string {
	long := strings.Repeat("a", 31)
	s := strings.Repeat(long+".", size/32)
	if rest := size % 32; rest > 0 {
		return s + strings.Repeat("b", rest)
	}
	return s[:len(s)-1] + "a"
}

// namePlaces is where names stand, in the place of N; starred where no period
// may stand ahead of one.
func namePlaces() []string {
	return []string{
		"*package N;", "message M{N a=1;}", "message M{optional N a=1;}", "message M{repeated N a=1;}", "message M{map<N,b>c=1;}", "message M{map<b,N>c=1;}", "message M{oneof o{N a=1;}}",
		"service S{rpc F(N)returns(M);}", "service S{rpc F(M)returns(N){}}",
	}
}

// P4.1: a name has at most 128 bytes, its periods and a leading one included.
func TestNameLimit(t *testing.T) {
	for _, place := range namePlaces() {
		s, packaged := strings.CutPrefix(place, "*")
		with := func(name string) string { return strings.Replace(s, "N", name, 1) }
		for size := 120; size <= 128; size++ {
			if !strings.Contains(told(accepts(t, head+with(nameOf(size)))), nameOf(size)) {
				t.Errorf("%s: not %s", s, nameOf(size))
			}
		}
		for _, size := range []int{129, 130, 131, 160, 1000, 60000} {
			marked(t, api.ErrLimit, with("@"+nameOf(size)))
		}
		many := strings.Repeat("a.", 64)
		accepts(t, head+with(many[:127]))
		marked(t, api.ErrLimit, with("@"+many+"b"))
		marked(t, api.ErrLimit, with("@"+strings.Repeat(many, 400)+"b"))
		// Blanks do not count.
		spread := strings.NewReplacer(".", " /* . */ . ")
		accepts(t, head+with(spread.Replace(nameOf(128))))
		marked(t, api.ErrLimit, with(" @"+spread.Replace(nameOf(129))))
		if packaged {
			continue
		}
		if !strings.Contains(told(accepts(t, head+with("."+nameOf(127)))), "."+nameOf(127)) {
			t.Errorf("%s: not %s", s, nameOf(127))
		}
		marked(t, api.ErrLimit, with("@."+nameOf(128)))
		marked(t, api.ErrLimit, with(" @. "+nameOf(128)))
	}
}

// P4.1: a name is read whole ahead of its limit, and the limit comes ahead of
// what follows.
func TestNameThatBreaksOff(t *testing.T) {
	for _, place := range namePlaces() {
		s, packaged := strings.CutPrefix(place, "*")
		before, _, _ := strings.Cut(s, "N")
		for _, size := range []int{40, 127, 128, 129, 1000} {
			name := nameOf(size)
			for _, wrong := range []string{".@;", ".@", ".@.a", ".@5", ".@'a'", ".a.@=1;", " . @}", ".@-"} {
				marked(t, api.ErrSyntax, before+name+wrong)
				if !packaged {
					marked(t, api.ErrSyntax, before+"."+name+wrong)
				}
			}
		}
		for _, wrong := range []string{"", ";;", " }", " 5", " 'a'", " -", " a.", " a b c"} {
			marked(t, api.ErrLimit, before+"@"+nameOf(129)+wrong)
			if !packaged {
				marked(t, api.ErrLimit, before+"@."+nameOf(128)+wrong)
			}
		}
	}
	// Too long a name, behind another error, and ahead of one.
	marked(t, api.ErrSyntax, "package a;@package "+nameOf(129)+";")
	marked(t, api.ErrLimit, "package @"+nameOf(129)+";package b;")
	marked(t, api.ErrLimit, "message M{map<@"+nameOf(129)+","+nameOf(129)+">")
	marked(t, api.ErrLimit, "message M{map<a,@"+nameOf(129)+">a=b;")
	marked(t, api.ErrLimit, "message M{"+counted("a b%=1;", "", 64)+"@"+nameOf(129)+".;")
}

// P4.2: each byte, alone and beside others.
func TestPathBytes(t *testing.T) {
	const allowed = "abcdefghijklmnopqrstuvwxyzABCDEFGHIJKLMNOPQRSTUVWXYZ0123456789_-./"
	for i := range 256 {
		c := string([]byte{byte(i)})
		want := strings.Contains(allowed, c)
		for _, s := range []string{c, "a" + c, c + "a", "a" + c + "a", c + c} {
			if tree.IsPath(s) != want {
				t.Errorf("IsPath(%q) = %v", s, !want)
			}
		}
	}
}

// P4.2: paths have 1 to 64 bytes, and no other form.
func TestPaths(t *testing.T) {
	if tree.IsPath("") {
		t.Error("no bytes are a path")
	}
	for size := 1; size < 200; size++ {
		for _, c := range []string{"a", "/", ".", "-", "9"} {
			s := strings.Repeat(c, size)
			if want := size <= 64; tree.IsPath(s) != want {
				t.Errorf("IsPath(%q) = %v", s, !want)
			}
		}
	}
	for _, s := range []string{"a.proto", "a/b.proto", "/", "..", "../a", "a//b", "-", "5", "_", "a/", strings.Repeat("a/", 32)} {
		if !tree.IsPath(s) {
			t.Errorf("%q is no path", s)
		}
	}
	for _, s := range []string{" ", "a b", "a\n", "a\\b", "a:b", "\xc3\xa4", "a\xff", "a\x00", "*", "a,b", "~", strings.Repeat("a", 64) + " ", strings.Repeat("a", 1<<20)} {
		if tree.IsPath(s) {
			t.Errorf("%q is a path", s)
		}
	}
}
