package scope_test

import (
	"slices"
	"sort"
	"strings"

	"signetry/api"
	"signetry/lex"
)

// A second way to everything: the symbols by the tokens of the texts, without
// their trees; what is seen by a list of edges; and names by the definition, scope
// by scope.

// secondOf is the symbols of a file. A keyword, an identifier and a brace stand
// side by side only where something is declared.
func secondOf(source api.Source) (l []api.Symbol) {
	words, _, _ := lex.Words(source.Text)
	kinds := map[string]int{"message": api.SymMsg, "enum": api.SymEnum, "service": api.SymSvc}
	var around []string
	for i, w := range words {
		switch {
		case w.Kind == api.WordIdent && w.Text == "package" && words[i+1].Kind == api.WordIdent && len(around) == 0 && words[i-1].Text == ";":
			for ; w.Text != ";"; w = words[i] {
				i++
				if words[i].Kind == api.WordIdent {
					around = append(around, words[i].Text)
				}
			}
		case w.Text == "{" && w.Kind == api.WordSign:
			name := ""
			if kind := kinds[words[i-2].Text]; kind > 0 && words[i-1].Kind == api.WordIdent {
				name = words[i-1].Text
				full := append(slices.Clone(around), name)
				l = append(l, api.Symbol{Name: strings.Join(full, "."), Path: source.Path, Kind: kind, At: words[i-1].At})
			}
			around = append(around, name)
		case w.Text == "}" && w.Kind == api.WordSign:
			around = around[:len(around)-1]
		}
	}
	return l
}

// secondAll is all symbols of valid files whose package is ahead of all that they
// declare.
func secondAll(l []api.Source) (all []api.Symbol) {
	for _, s := range l {
		all = append(all, secondOf(s)...)
	}
	sort.SliceStable(all, func(i, j int) bool {
		a, b := all[i], all[j]
		if a.Name != b.Name {
			return a.Name < b.Name
		}
		if a.Path != b.Path {
			return a.Path < b.Path
		}
		return a.At < b.At
	})
	return all
}

// secondSees tells whether a unit sees another one: itself, what it imports, and
// what is behind that by public imports.
func secondSees(l []api.Unit, from, to string) bool {
	isSeen := map[string]bool{from: true}
	for range len(l) + 1 {
		for _, u := range l {
			for _, d := range u.Tree.Imports {
				if u.Path == from || isSeen[u.Path] && d.Public {
					isSeen[d.Path] = true
				}
			}
		}
	}
	return isSeen[to]
}

// secondScopes is the scopes of a name, by its parts.
func secondScopes(name string) (l []string) {
	parts := strings.Split(name, ".")
	for i := len(parts); i > 0; i-- {
		l = append(l, strings.Join(parts[:i], "."))
	}
	if l[len(l)-1] != "" {
		l = append(l, "")
	}
	return l
}

// secondFind is what Find has to return, for all symbols of valid units, and a
// path of one of them.
func secondFind(l []api.Unit, all []api.Symbol, path, in, name string) (api.Symbol, api.Errno) {
	var fulls []string
	if strings.HasPrefix(name, ".") {
		fulls = []string{name[1:]}
	} else {
		for _, s := range secondScopes(in) {
			if s == "" {
				fulls = append(fulls, name)
			} else {
				fulls = append(fulls, s+"."+name)
			}
		}
	}
	for _, full := range fulls {
		for _, s := range all {
			if s.Name == full && secondSees(l, path, s.Path) {
				return s, api.OK
			}
		}
	}
	return api.Symbol{}, api.ErrName
}
