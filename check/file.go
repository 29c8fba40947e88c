package check

import (
	"slices"
	"strings"

	"signetry/api"
)

// file is a file that is checked: its path, what full names mean in it, and what
// was found so far.
type file struct {
	path     string
	meanings map[string]int
	found    diagnostics
}

func (f file) check(rules []rule) {
	f.found.check(f.path, rules)
}

func (f file) checkTree(t api.Tree) {
	f.checkMessages(t.Package, t.Msgs)
	f.checkEnums(t.Enums)
	f.checkServices(t.Package, t.Svcs)
}

// meanings is what full names mean in a file that sees some paths: the kind of the
// first symbol with that name that is seen.
//
// This, and meaning, is what scope.Find does, but that goes through all units
// again for each name, which takes too long for all names of great files.
func meanings(all []api.Symbol, seen []string) map[string]int {
	meant := map[string]int{}
	for _, s := range all {
		if meant[s.Name] == nothing && slices.Contains(seen, s.Path) {
			meant[s.Name] = s.Kind
		}
	}
	return meant
}

// nothing is the meaning of what cannot be resolved.
const nothing = 0

// meaning is what a name means in the first one of some scopes in which it means
// something.
func (f file) meaning(scopes []string, name string) int {
	if full, isFull := strings.CutPrefix(name, "."); isFull {
		return f.meanings[full]
	}
	for _, outer := range scopes {
		if kind := f.meanings[joined(outer, name)]; kind != nothing {
			return kind
		}
	}
	return nothing
}

func joined(outer, name string) string {
	if outer == "" {
		return name
	}
	return outer + "." + name
}
