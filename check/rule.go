package check

import (
	"cmp"
	"maps"
	"slices"
	"strings"

	"signetry/api"
)

// rule is a rule for an element: what tells whether it is broken, and the place
// and the error if it is.
type rule struct {
	isBroken func() bool
	at       int
	e        api.Errno
}

// diagnostics is what was found so far, each once.
type diagnostics map[api.Wrong]struct{}

// check adds the diagnostics of an element by its rules.
func (d diagnostics) check(path string, rules []rule) {
	for _, r := range rules {
		if r.isBroken() {
			d[api.Wrong{Path: path, At: r.at, E: r.e}] = struct{}{}
		}
	}
}

// inOrder is all of them in order, in memory of their own.
func (d diagnostics) inOrder() []api.Wrong {
	l := slices.SortedFunc(maps.Keys(d), func(a, b api.Wrong) int {
		return cmp.Or(cmp.Compare(a.Path, b.Path), cmp.Compare(a.At, b.At), cmp.Compare(a.E, b.E))
	})
	for i, w := range l {
		l[i].Path = strings.Clone(w.Path)
	}
	return l
}
