package build

import (
	"slices"
	"strings"

	"signetry/api"
	"signetry/files"
	"signetry/text"
)

// sight tells whether a name is that of something of a kind that is seen.
type sight func(kind int, name string) bool

// sightOf is the sight of what files with some paths declare.
func sightOf(all map[string]home, paths []string) sight {
	return func(kind int, name string) bool {
		h := all[name]
		return h.kind == kind && slices.Contains(paths, h.path)
	}
}

// place is a file of a set as its messages, enums and services ask for it: its
// path, its package, what it declares itself, and what it sees.
type place struct {
	path, pkg string
	has, sees sight
}

func placesOf(s api.Set) []place {
	var places []place
	units, all := unitsOf(s.Files), homesOf(s)
	for _, f := range s.Files {
		own := []string{f.Path}
		places = append(places, place{f.Path, f.Package, sightOf(all, own), sightOf(all, files.Sees(units, f.Path))})
	}
	return places
}

// areIn tells whether each element of a list is valid in the place with its path.
func areIn[T any](places []place, l []T, path func(T) string, is func(T, place) bool) bool {
	return !has(l, func(x T) bool {
		p, known := first(places, func(p place) bool { return p.path == path(x) })
		return !known || !is(x, p)
	})
}

// isOuter tells whether a place has a name for something outside of messages.
func (p place) isOuter(name string) bool {
	return text.IsFull(name) && outerOf(name) == p.pkg
}

// isInner tells whether a place has a name for something inside of a message.
func (p place) isInner(name string) bool {
	return text.IsFull(name) && p.has(api.SymMsg, outerOf(name))
}

// depth is how many names a full name has behind the package of the place.
func (p place) depth(name string) int {
	return countNames(name) - countNames(p.pkg)
}

func countNames(full string) int {
	if full == "" {
		return 0
	}
	return strings.Count(full, ".") + 1
}

// outerOf is a full name without its last name.
func outerOf(name string) string {
	return name[:max(strings.LastIndexByte(name, '.'), 0)]
}
