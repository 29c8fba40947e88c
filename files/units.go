package files

import (
	"iter"
	"slices"
	"strings"

	"signetry/api"
	"signetry/print"
	"signetry/tree"
)

// areUnits tells whether units are valid, but for cycles among them.
func areUnits(l []api.Unit) bool {
	if len(l) > api.MaxFiles {
		return false
	}
	for i, u := range l {
		if i > 0 && l[i-1].Path >= u.Path || !isUnit(u, l) {
			return false
		}
	}
	return true
}

// isUnit tells whether a unit may be among others. The tree comes ahead of its
// imports, as it limits how many of them there are.
func isUnit(u api.Unit, others []api.Unit) bool {
	return tree.IsPath(u.Path) &&
		print.Check(u.Tree) == api.OK &&
		areImports(u.Tree.Imports, others)
}

// areImports tells whether there is a unit for each import, and another one for
// each.
func areImports(l []api.Import, units []api.Unit) bool {
	for i, d := range l {
		if imports(l[:i], d.Path) || unitAt(units, d.Path) < 0 {
			return false
		}
	}
	return true
}

func imports(l []api.Import, path string) bool {
	return slices.ContainsFunc(l, func(d api.Import) bool { return d.Path == path })
}

// unitAt is where the unit with a path is, or -1.
func unitAt(l []api.Unit, path string) int {
	return slices.IndexFunc(l, func(u api.Unit) bool { return u.Path == path })
}

// isCyclic tells whether a unit imports itself, directly or indirectly: then it
// never comes next in an order.
func isCyclic(l []api.Unit) bool {
	count := 0
	for range ordered(l) {
		count++
	}
	return count < len(l)
}

// ordered traverses the paths of units so that each one follows all that it
// imports; of those that may come next the first unit's one comes. It ends when
// none may.
func ordered(l []api.Unit) iter.Seq[string] {
	return func(yield func(string) bool) {
		var before []string
		next := func() int {
			return slices.IndexFunc(l, func(u api.Unit) bool { return mayFollow(u, before) })
		}
		for i := next(); i >= 0 && yield(l[i].Path); i = next() {
			before = append(before, l[i].Path)
		}
	}
}

// mayFollow tells whether a unit may come behind these paths, and no sooner than
// all that it imports.
func mayFollow(u api.Unit, before []string) bool {
	if slices.Contains(before, u.Path) {
		return false
	}
	for _, d := range u.Tree.Imports {
		if !slices.Contains(before, d.Path) {
			return false
		}
	}
	return true
}

// seen traverses the paths that the unit with a path sees, that path first. The
// units are valid, and it is among them.
func seen(l []api.Unit, path string) iter.Seq[string] {
	return func(yield func(string) bool) {
		paths := []string{path}
		for i := 0; i < len(paths) && yield(paths[i]); i++ {
			for _, d := range l[unitAt(l, paths[i])].Tree.Imports {
				isShown := d.Public || paths[i] == path
				if isShown && !slices.Contains(paths, d.Path) {
					paths = append(paths, d.Path)
				}
			}
		}
	}
}

// copies is paths in memory of their own.
func copies(paths iter.Seq[string]) []string {
	var l []string
	for path := range paths {
		l = append(l, strings.Clone(path))
	}
	return l
}
