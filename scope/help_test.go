package scope_test

import (
	"fmt"
	"math/rand"
	"slices"
	"strings"
	"testing"

	"signetry/api"
	"signetry/scope"
	"signetry/tree"
)

// head is what each file begins with: 16 bytes.
const head = `syntax="proto3";`

// sources is files that are written as lines: "a: message M{}" is a, with that
// behind the head.
func sources(lines ...string) (l []api.Source) {
	for _, line := range lines {
		path, rest, _ := strings.Cut(line, ":")
		l = append(l, api.Source{Path: path, Text: head + strings.TrimPrefix(rest, " ")})
	}
	return l
}

// units is the units of files that are written as lines, in their order, whether
// they are valid or not.
func units(lines ...string) []api.Unit {
	return parsed(sources(lines...))
}

func parsed(l []api.Source) (out []api.Unit) {
	for _, s := range l {
		t, at, e := tree.Parse(s.Text)
		if e != api.OK {
			panic(fmt.Sprint(s, at, e))
		}
		out = append(out, api.Unit{Path: s.Path, Tree: t})
	}
	return out
}

// told is a symbol as a text: "message p.M a 26".
func told(s api.Symbol) string {
	kind := map[int]string{api.SymMsg: "message", api.SymEnum: "enum", api.SymSvc: "service"}[s.Kind]
	return fmt.Sprint(kind, " ", s.Name, " ", s.Path, " ", s.At)
}

func allTold(l []api.Symbol) (lines []string) {
	for _, s := range l {
		lines = append(lines, told(s))
	}
	return lines
}

// has checks that units have exactly these symbols, in this order.
func has(t *testing.T, l []api.Unit, want ...string) {
	t.Helper()
	if got := allTold(scope.All(l)); !slices.Equal(got, want) {
		t.Errorf("the symbols are\n%s\nwant\n%s", strings.Join(got, "\n"), strings.Join(want, "\n"))
	}
}

// names checks the full names of all symbols, in order.
func names(t *testing.T, l []api.Unit, want string) {
	t.Helper()
	var got []string
	for _, s := range scope.All(l) {
		got = append(got, s.Name)
	}
	if !slices.Equal(got, strings.Fields(want)) {
		t.Errorf("the symbols are %v, want %s", got, want)
	}
}

// finds checks that a name means a symbol, which is "p.M" if it is declared in
// the same file, and otherwise "p.M b".
func finds(t *testing.T, l []api.Unit, path, in, name, want string) {
	t.Helper()
	full, file, isOther := strings.Cut(want, " ")
	if !isOther {
		file = path
	}
	i := slices.IndexFunc(scope.All(l), func(s api.Symbol) bool { return s.Name == full && s.Path == file })
	if i < 0 {
		t.Fatalf("there is no %s in %s", full, file)
	}
	got, e := scope.Find(l, path, in, name)
	if e != api.OK || got != scope.All(l)[i] {
		t.Errorf("%.100q in %s, %.100q: %d, %s, want %s", name, path, in, e, told(got), want)
	}
}

// fails checks that a name means nothing, with that error.
func fails(t *testing.T, l []api.Unit, path, in, name string, want api.Errno) {
	t.Helper()
	if got, e := scope.Find(l, path, in, name); e != want || got != (api.Symbol{}) {
		t.Errorf("%.100q in %.100q, %.100q: %d, %s, want %d", name, path, in, e, told(got), want)
	}
}

// refuses checks that units are not valid: there are no symbols, and nothing is
// found.
func refuses(t *testing.T, what string, l []api.Unit) {
	t.Helper()
	if got := scope.All(l); len(got) != 0 {
		t.Errorf("%s: the symbols are %v", what, got)
	}
	for _, path := range []string{"a", "b", "c", "z", ""} {
		for _, name := range []string{"M", ".M", "none", "", "."} {
			if got, e := scope.Find(l, path, "", name); e != api.ErrArg || got != (api.Symbol{}) {
				t.Errorf("%s: %q in %q: %d, %s", what, name, path, e, told(got))
			}
		}
	}
}

// nested is messages with these names, each in the one before it, and something
// in the last one.
func nested(inside string, names ...string) string {
	for _, name := range slices.Backward(names) {
		inside = "message " + name + "{" + inside + "}"
	}
	return inside
}

// pick is one of some.
func pick[T any](r *rand.Rand, some []T) T {
	return some[r.Intn(len(some))]
}
