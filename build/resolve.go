package build

import (
	"slices"
	"strings"

	"signetry/api"
	"signetry/scope"
)

// resolver is the symbol that a name means in one place.
type resolver func(name string) api.Symbol

// meanings is what full names mean in a file that sees some paths. No two symbols
// of units without diagnostics have the same name.
//
// This, and the resolvers, do what scope.Find does, but that goes through all
// units again for each name, which takes too long for all names of great files.
func meanings(all []api.Symbol, seen []string) map[string]api.Symbol {
	meant := map[string]api.Symbol{}
	for _, s := range all {
		if slices.Contains(seen, s.Path) {
			meant[s.Name] = s
		}
	}
	return meant
}

// resolverIn is the resolver in the scope of a full name.
func resolverIn(meant map[string]api.Symbol, full string) resolver {
	scopes := scope.Scopes(full)
	return func(name string) api.Symbol {
		if full, isFull := strings.CutPrefix(name, "."); isFull {
			return meant[full]
		}
		for _, outer := range scopes {
			if s, known := meant[joined(outer, name)]; known {
				return s
			}
		}
		return api.Symbol{}
	}
}

func joined(outer, name string) string {
	if outer == "" {
		return name
	}
	return outer + "." + name
}

// linkEach links each element of a list, and passes the resolver on.
func linkEach[Def, Linked any](l []Def, resolve resolver, link func(Def, resolver) Linked) []Linked {
	var all []Linked
	for _, def := range l {
		all = append(all, link(def, resolve))
	}
	return all
}
