package scope

import (
	"cmp"
	"iter"
	"slices"
	"strings"

	"signetry/api"
)

// symbols traverses the symbols of units, in the order in which they are
// declared.
func symbols(l []api.Unit) iter.Seq[api.Symbol] {
	return func(yield func(api.Symbol) bool) {
		for _, u := range l {
			for s := range declared(u.Path, u.Tree) {
				if !yield(s) {
					return
				}
			}
		}
	}
}

// declared traverses the symbols of a file. What a message declares are those of
// a file, too, with the full name of the message as its package.
func declared(path string, t api.Tree) iter.Seq[api.Symbol] {
	return func(yield func(api.Symbol) bool) {
		symbol := func(kind int, name string, at int) api.Symbol {
			return api.Symbol{Name: joined(t.Package, name), Path: path, Kind: kind, At: at}
		}
		for _, m := range t.Msgs {
			s := symbol(api.SymMsg, m.Name, m.At)
			if !yield(s) {
				return
			}
			for inner := range declared(path, api.Tree{Package: s.Name, Msgs: m.Msgs, Enums: m.Enums}) {
				if !yield(inner) {
					return
				}
			}
		}
		for _, n := range t.Enums {
			if !yield(symbol(api.SymEnum, n.Name, n.At)) {
				return
			}
		}
		for _, v := range t.Svcs {
			if !yield(symbol(api.SymSvc, v.Name, v.At)) {
				return
			}
		}
	}
}

func joined(outer, name string) string {
	if outer == "" {
		return name
	}
	return outer + "." + name
}

// copied is a symbol in memory of its own.
func copied(s api.Symbol) api.Symbol {
	s.Name, s.Path = strings.Clone(s.Name), strings.Clone(s.Path)
	return s
}

// withPaths is the units with some paths.
func withPaths(l []api.Unit, paths []string) (some []api.Unit) {
	for _, u := range l {
		if slices.Contains(paths, u.Path) {
			some = append(some, u)
		}
	}
	return some
}

// comparison tells which of two symbols comes first.
type comparison func(a, b api.Symbol) int

// inTurn is a comparison by others: each one decides where those before it find
// no difference.
func inTurn(by ...comparison) comparison {
	return func(a, b api.Symbol) int {
		for _, compare := range by {
			if c := compare(a, b); c != 0 {
				return c
			}
		}
		return 0
	}
}

func byName(a, b api.Symbol) int { return strings.Compare(a.Name, b.Name) }
func byPath(a, b api.Symbol) int { return strings.Compare(a.Path, b.Path) }
func byAt(a, b api.Symbol) int   { return cmp.Compare(a.At, b.At) }
