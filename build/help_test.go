package build_test

import (
	"fmt"
	"math/rand"
	"slices"
	"strings"
	"testing"

	"signetry/api"
	"signetry/build"
	"signetry/tree"
)

// head is what each file begins with: 16 bytes.
const head = `syntax="proto3";`

// sources is files that are written as lines, "a: message M{}".
func sources(lines ...string) (l []api.Source) {
	for _, line := range lines {
		path, rest, _ := strings.Cut(line, ":")
		l = append(l, api.Source{Path: path, Text: head + strings.TrimPrefix(rest, " ")})
	}
	return l
}

// pathsOf is the paths of files: all of them are roots.
func pathsOf(l []api.Source) (paths []string) {
	for _, s := range l {
		paths = append(paths, s.Path)
	}
	return paths
}

// unitsOf is the units of files, in their order, whether they are valid or not.
func unitsOf(l []api.Source) (units []api.Unit) {
	for _, s := range l {
		t, at, e := tree.Parse(s.Text)
		if e != api.OK {
			panic(fmt.Sprintf("%s: %d at %d of %.1000s", s.Path, e, at, s.Text))
		}
		units = append(units, api.Unit{Path: s.Path, Tree: t})
	}
	return units
}

// built is the set of files in which nothing is wrong.
func built(t *testing.T, lines ...string) api.Set {
	t.Helper()
	l := sources(lines...)
	s, at, e := build.Build(l, pathsOf(l))
	if e != api.OK || at != (api.Where{}) {
		t.Errorf("%d at %v of %.1000q", e, at, lines)
	}
	return s
}

// names of types and of cards, by their numbers.
func typeName(n int) string {
	for number, name := range map[int]string{
		1: "double", 2: "float", 3: "int64", 4: "uint64", 5: "int32", 6: "fixed64", 7: "fixed32", 8: "bool", 9: "string", 11: "message",
		12: "bytes", 13: "uint32", 14: "enum", 15: "sfixed32", 16: "sfixed64", 17: "sint32", 18: "sint64",
	} {
		if number == n {
			return name
		}
	}
	return fmt.Sprint("type ", n)
}

func cardName(n int) string {
	if n < 1 || n > 4 {
		return fmt.Sprint("card ", n)
	}
	return []string{"one", "opt", "rep", "map"}[n-1]
}

// told is a set as lines.
func told(s api.Set) (lines []string) {
	say := func(parts ...any) {
		lines = append(lines, strings.TrimRight(fmt.Sprintln(parts...), " \n"))
	}
	reserved := func(name string, ranges [][2]int, names []string) {
		for _, r := range ranges {
			say(name, "reserved", r[0], "to", r[1])
		}
		for _, x := range names {
			say(name, "reserved", x)
		}
	}
	for _, f := range s.Files {
		say("file", f.Path, f.Package)
		for _, d := range f.Imports {
			say(f.Path, "imports", d.Path, map[bool]string{true: "publicly"}[d.Public])
		}
	}
	for _, m := range s.Msgs {
		say("message", m.Name, "of", m.Path)
		for _, x := range m.Fields {
			l := []any{m.Name, x.Num, x.Name, x.Json, cardName(x.Card)}
			if x.Key != 0 {
				l = append(l, "by", typeName(x.Key))
			}
			if l = append(l, typeName(x.Type)); x.Ref != "" {
				l = append(l, x.Ref)
			}
			if x.Oneof != -1 {
				l = append(l, "in", x.Oneof)
			}
			say(l...)
		}
		for _, o := range m.Oneofs {
			say(m.Name, "oneof", o)
		}
		reserved(m.Name, m.Ranges, m.Names)
	}
	for _, n := range s.Enums {
		say("enum", n.Name, "of", n.Path)
		for _, v := range n.Values {
			say(n.Name, v.Name, v.Num)
		}
		reserved(n.Name, n.Ranges, n.Names)
	}
	for _, v := range s.Svcs {
		say("service", v.Name, "of", v.Path)
		for _, r := range v.Rpcs {
			say(v.Name, r.Name, r.In, r.Out)
		}
	}
	return lines
}

// tells checks that a set is these lines.
func tells(t *testing.T, s api.Set, want ...string) {
	t.Helper()
	if got := told(s); !slices.Equal(got, want) {
		t.Errorf("the set is\n%s\nwant\n%s", strings.Join(got, "\n"), strings.Join(want, "\n"))
	}
	if e := build.Check(s); e != api.OK {
		t.Errorf("the set is not valid, but %d", e)
	}
}

// fields checks that the lines of a set about a message are these, without its
// name.
func fields(t *testing.T, s api.Set, name string, want ...string) {
	t.Helper()
	var got []string
	for _, line := range told(s) {
		if rest, isPart := strings.CutPrefix(line, name+" "); isPart {
			got = append(got, rest)
		}
	}
	if !slices.Equal(got, want) {
		t.Errorf("%s is\n%s\nwant\n%s", name, strings.Join(got, "\n"), strings.Join(want, "\n"))
	}
}

// fails checks the error of files, and where it is.
func fails(t *testing.T, l []api.Source, roots []string, want api.Errno, path string, at int) {
	t.Helper()
	s, where, e := build.Build(l, roots)
	if e != want || where != (api.Where{Path: path, At: at}) || len(told(s)) > 0 {
		t.Errorf("%d at %v with %v, want %d at %s %d", e, where, told(s), want, path, at)
	}
}

// refuses checks the error of units, and where it is.
func refuses(t *testing.T, l []api.Unit, want api.Errno, path string, at int) {
	t.Helper()
	s, where, e := build.Link(l)
	if e != want || where != (api.Where{Path: path, At: at}) || len(told(s)) > 0 {
		t.Errorf("%d at %v with %v, want %d at %s %d", e, where, told(s), want, path, at)
	}
}

// deepEqual tells whether values are equal but for lists that are nil or empty.
func deepEqual(a, b any) bool {
	all := func(v any) string { return strings.ReplaceAll(fmt.Sprintf("%#v", v), "(nil)", "{}") }
	return all(a) == all(b)
}

// nested is messages with these names, each in the one before it, and something
// in the last one.
func nested(inside string, names ...string) string {
	for _, name := range slices.Backward(names) {
		inside = "message " + name + "{" + inside + "}"
	}
	return inside
}

// many is something as often, in which # is a number from 0 on, with three digits.
func many(count int, s string) string {
	var b strings.Builder
	for i := range count {
		b.WriteString(strings.ReplaceAll(s, "#", fmt.Sprintf("%03d", i)))
	}
	return b.String()
}

// pick is one of some.
func pick[T any](r *rand.Rand, some []T) T {
	return some[r.Intn(len(some))]
}
