package files_test

import (
	"slices"
	"sort"

	"signetry/api"
	"signetry/tree"
)

// A second way to everything: reading without recursion, by the files that are
// open on a stack; what imports what by a matrix, which is closed step by step;
// and the order as the first one of all that are possible.

// opened is a file whose imports are being visited, up to the next one.
type opened struct {
	path string
	tree api.Tree
	next int
}

// secondRead is what Read has to return, for sources that are valid and 1 to 16
// roots.
func secondRead(l []api.Source, roots []string) ([]api.Unit, api.Where, api.Errno) {
	texts := map[string]string{}
	for _, s := range l {
		texts[s.Path] = s.Text
	}
	read := map[string]api.Tree{}
	for _, root := range roots {
		stack := []*opened{{tree: api.Tree{Imports: []api.Import{{Path: root}}}}}
		for len(stack) > 0 {
			top := stack[len(stack)-1]
			if top.next == len(top.tree.Imports) {
				read[top.path] = top.tree
				stack = stack[:len(stack)-1]
				continue
			}
			at, path := api.Where{Path: top.path, At: top.tree.Imports[top.next].At}, top.tree.Imports[top.next].Path
			if len(stack) == 1 {
				at = api.Where{Path: root}
			}
			for _, earlier := range top.tree.Imports[:top.next] {
				if earlier.Path == path {
					return nil, at, api.ErrTwice
				}
			}
			top.next++
			if _, isRead := read[path]; isRead {
				continue
			}
			if slices.ContainsFunc(stack[1:], func(o *opened) bool { return o.path == path }) {
				return nil, at, api.ErrCycle
			}
			s, isThere := texts[path]
			if !isThere {
				return nil, at, api.ErrMissing
			}
			t, offset, e := tree.Parse(s)
			if e != api.OK {
				return nil, api.Where{Path: path, At: offset}, e
			}
			stack = append(stack, &opened{path: path, tree: t})
		}
		delete(read, "")
	}
	var out []api.Unit
	for path, t := range read {
		out = append(out, api.Unit{Path: path, Tree: t})
	}
	sort.Slice(out, func(i, j int) bool { return out[i].Path < out[j].Path })
	return out, api.Where{}, api.OK
}

// matrix tells for each two units whether the first one imports the second one
// in such a way.
type matrix [api.MaxFiles][api.MaxFiles]bool

func matrixOf(l []api.Unit, is func(d api.Import) bool) (m matrix) {
	for i, u := range l {
		for _, d := range u.Tree.Imports {
			for j := range l {
				m[i][j] = m[i][j] || l[j].Path == d.Path && is(d)
			}
		}
	}
	return m
}

// closed is a matrix for imports of any number of steps from 1 on.
func (m matrix) closed() matrix {
	for k := range m {
		for i := range m {
			for j := range m {
				m[i][j] = m[i][j] || m[i][k] && m[k][j]
			}
		}
	}
	return m
}

func anyImport(api.Import) bool      { return true }
func publicImport(d api.Import) bool { return d.Public }

// secondCyclic tells whether one of up to 16 units imports itself.
func secondCyclic(l []api.Unit) bool {
	m := matrixOf(l, anyImport).closed()
	for i := range l {
		if m[i][i] {
			return true
		}
	}
	return false
}

// secondSees is what a unit of valid ones sees: itself, what it imports, and what
// that has behind public imports.
func secondSees(l []api.Unit, path string) (paths []string) {
	direct, public := matrixOf(l, anyImport), matrixOf(l, publicImport).closed()
	from := slices.IndexFunc(l, func(u api.Unit) bool { return u.Path == path })
	for j := range l {
		isSeen := from == j || direct[from][j]
		for k := range l {
			isSeen = isSeen || direct[from][k] && public[k][j]
		}
		if isSeen {
			paths = append(paths, l[j].Path)
		}
	}
	return paths
}

// secondOrder is the first one, by the paths from the left, of all orders of valid
// units in which each one follows all that it imports.
func secondOrder(l []api.Unit) []string {
	m := matrixOf(l, anyImport).closed()
	var order []int
	var extend func() bool
	extend = func() bool {
		if len(order) == len(l) {
			return true
		}
		for i := range l {
			isTooSoon := slices.Contains(order, i)
			for j := range l {
				isTooSoon = isTooSoon || m[i][j] && !slices.Contains(order, j)
			}
			if isTooSoon {
				continue
			}
			order = append(order, i)
			if extend() {
				return true
			}
			order = order[:len(order)-1]
		}
		return false
	}
	extend()
	var paths []string
	for _, i := range order {
		paths = append(paths, l[i].Path)
	}
	return paths
}
