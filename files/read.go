package files

import (
	"iter"
	"maps"
	"slices"
	"strings"

	"signetry/api"
	"signetry/tree"
)

// file is one that has been visited: its tree, and whether it has been read, or
// its imports are still being visited.
type file struct {
	tree api.Tree
	read bool
}

// step is a path that is to be visited, from where, and whether an earlier
// import of the same file has that path, too.
type step struct {
	path  string
	from  api.Where
	again bool
}

// areSources tells whether each path is one, and names only one source.
func areSources(l []api.Source) bool {
	if len(l) > api.MaxFiles {
		return false
	}
	for i, s := range l {
		if !tree.IsPath(s.Path) || sourceAt(l[:i], s.Path) >= 0 {
			return false
		}
	}
	return true
}

// sourceAt is where the source with a path is, or -1.
func sourceAt(l []api.Source, path string) int {
	return slices.IndexFunc(l, func(s api.Source) bool { return s.Path == path })
}

// visitAll is all files that the roots require, by their paths; or the first
// error and where it is.
func visitAll(l []api.Source, roots []string) (map[string]file, api.Where, api.Errno) {
	visited := map[string]file{}
	var visit func(paths iter.Seq[step]) (api.Where, api.Errno)
	visit = func(paths iter.Seq[step]) (api.Where, api.Errno) {
		for s := range paths {
			f, known := visited[s.path]
			switch {
			case s.again:
				return s.from, api.ErrTwice
			case f.read:
				continue
			case known:
				return s.from, api.ErrCycle
			}
			t, at, e := parse(l, s)
			if e != api.OK {
				return at, e
			}
			visited[s.path] = file{}
			if at, e := visit(imported(s.path, t.Imports)); e != api.OK {
				return at, e
			}
			visited[s.path] = file{tree: t, read: true}
		}
		return api.Where{}, api.OK
	}
	at, e := visit(required(roots))
	return visited, at, e
}

// parse is the tree of the source that a step leads to.
func parse(l []api.Source, s step) (api.Tree, api.Where, api.Errno) {
	i := sourceAt(l, s.path)
	if i < 0 {
		return api.Tree{}, s.from, api.ErrMissing
	}
	t, at, e := tree.Parse(l[i].Text)
	return t, api.Where{Path: s.path, At: at}, e
}

// required traverses the roots. A root may be there again.
func required(roots []string) iter.Seq[step] {
	return func(yield func(step) bool) {
		for _, path := range roots {
			if !yield(step{path: path, from: api.Where{Path: path}}) {
				return
			}
		}
	}
}

// imported traverses what the file with a path imports.
func imported(path string, l []api.Import) iter.Seq[step] {
	return func(yield func(step) bool) {
		for i, d := range l {
			if !yield(step{d.Path, api.Where{Path: path, At: d.At}, imports(l[:i], d.Path)}) {
				return
			}
		}
	}
}

// unitsOf is the units of files, by increasing paths.
func unitsOf(files map[string]file) []api.Unit {
	var l []api.Unit
	for _, path := range slices.Sorted(maps.Keys(files)) {
		l = append(l, api.Unit{Path: strings.Clone(path), Tree: files[path].tree})
	}
	return l
}
