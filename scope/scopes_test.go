package scope_test

import (
	"slices"
	"strings"
	"testing"

	"signetry/scope"
)

// P7.1: a name, and what remains of it, up to the empty one.
func TestScopes(t *testing.T) {
	for name, want := range map[string][]string{
		"":            {""},
		"M":           {"M", ""},
		"p.M":         {"p.M", "p", ""},
		"p.q.r.s.M_1": {"p.q.r.s.M_1", "p.q.r.s", "p.q.r", "p.q", "p", ""},
		".":           {".", ""},
		"..":          {"..", ".", ""},
		"...":         {"...", "..", ".", ""},
		".M":          {".M", ""},
		".p.M":        {".p.M", ".p", ""},
		"..M":         {"..M", ".", ""},
		"M.":          {"M.", "M", ""},
		"M..":         {"M..", "M.", "M", ""},
		"p..M":        {"p..M", "p.", "p", ""},
		"p.M.":        {"p.M.", "p.M", "p", ""},
		" ":           {" ", ""},
		"a b.c/d.-":   {"a b.c/d.-", "a b.c/d", "a b", ""},
		"\xff.\x00.é": {"\xff.\x00.é", "\xff.\x00", "\xff", ""},
	} {
		if got := scope.Scopes(name); !slices.Equal(got, want) {
			t.Errorf("the scopes of %q are %q, want %q", name, got, want)
		}
	}
}

// P7.1: all short names, with periods anywhere.
func TestScopesOfShortNames(t *testing.T) {
	for _, name := range shortTexts("a.é", 8) {
		if got := scope.Scopes(name); !slices.Equal(got, secondScopes(name)) {
			t.Errorf("the scopes of %q are %q, want %q", name, got, secondScopes(name))
		}
	}
}

// shortTexts is all texts of up to that many letters.
func shortTexts(letters string, most int) []string {
	all := []string{""}
	for from := 0; most > 0; most-- {
		longest := all[from:]
		from = len(all)
		for _, s := range longest {
			for _, r := range letters {
				all = append(all, s+string(r))
			}
		}
	}
	return all
}

// P7.1, R1: names that are long, with as many scopes as that makes.
func TestScopesOfLongNames(t *testing.T) {
	const count = 1 << 20
	for name, want := range map[string]int{
		strings.Repeat("x", count):        2,
		strings.Repeat(".", count):        count + 1,
		strings.Repeat("ab.", count):      count + 2,
		strings.Repeat(".ab", count):      count + 1,
		"x." + strings.Repeat("y", count): 3,
	} {
		got := scope.Scopes(name)
		if len(got) != want || got[0] != name || got[want-1] != "" {
			t.Errorf("%.9q has %d scopes, want %d", name, len(got), want)
		}
		for i, s := range got[1:] {
			if !strings.HasPrefix(got[i], s) || strings.Count(got[i][len(s):], ".") > 1 {
				t.Fatalf("%.9q: scope %d has %d bytes, and the next one %d", name, i, len(got[i]), len(s))
			}
		}
	}
}
