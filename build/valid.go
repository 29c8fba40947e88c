package build

import (
	"cmp"

	"signetry/api"
	"signetry/files"
)

// isValid tells whether a set is valid. It asks first how much there is, as a set
// that is not valid may have any number of anything.
func isValid(s api.Set) bool {
	if !areFiles(s.Files) || !areDeclared(s) {
		return false
	}
	places := placesOf(s)
	return areIn(places, s.Msgs, func(m api.Msg) string { return m.Path }, isMsg) &&
		areIn(places, s.Enums, func(n api.Enum) string { return n.Path }, isEnum) &&
		areIn(places, s.Svcs, func(v api.Svc) string { return v.Path }, isSvc)
}

// areFiles tells whether the files of a set are valid. What a set asks of them is
// what is asked of units that declare nothing, but for the offsets of imports.
func areFiles(l []api.File) bool {
	return len(l) <= api.MaxFiles && files.Check(unitsOf(l)) == api.OK && !has(l, func(f api.File) bool {
		return has(f.Imports, func(d api.Import) bool { return d.At != 0 })
	})
}

func unitsOf(l []api.File) []api.Unit {
	var units []api.Unit
	for _, f := range l {
		units = append(units, api.Unit{Path: f.Path, Tree: api.Tree{Package: f.Package, Imports: f.Imports}})
	}
	return units
}

// areDeclared tells whether a set declares no more than it may, in order, and
// nothing twice.
func areDeclared(s api.Set) bool {
	return len(s.Msgs) <= api.MaxMsgs && len(s.Enums) <= api.MaxMsgs && len(s.Svcs) <= api.MaxMsgs &&
		rise(s.Msgs, func(m api.Msg) string { return m.Name }) &&
		rise(s.Enums, func(n api.Enum) string { return n.Name }) &&
		rise(s.Svcs, func(v api.Svc) string { return v.Name }) &&
		len(homesOf(s)) == len(s.Msgs)+len(s.Enums)+len(s.Svcs)
}

// home is of which kind something is that has a name, and the path of its file.
type home struct {
	kind int
	path string
}

// homesOf is the homes of all names of a set.
func homesOf(s api.Set) map[string]home {
	all := map[string]home{}
	for _, m := range s.Msgs {
		all[m.Name] = home{api.SymMsg, m.Path}
	}
	for _, n := range s.Enums {
		all[n.Name] = home{api.SymEnum, n.Path}
	}
	for _, v := range s.Svcs {
		all[v.Name] = home{api.SymSvc, v.Path}
	}
	return all
}

// rise tells whether the elements of a list are strictly increasing.
func rise[T any, K cmp.Ordered](l []T, key func(T) K) bool {
	for i := range l {
		if i > 0 && key(l[i-1]) >= key(l[i]) {
			return false
		}
	}
	return true
}

// differ tells whether no two elements of a list are equal.
func differ[T any, K comparable](l []T, key func(T) K) bool {
	for i, x := range l {
		if has(l[:i], func(o T) bool { return key(o) == key(x) }) {
			return false
		}
	}
	return true
}
