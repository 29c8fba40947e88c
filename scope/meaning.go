package scope

import (
	"cmp"
	"iter"
	"strings"

	"signetry/api"
)

// meant traverses those of some symbols that a name can mean in a scope, or in
// one of the scopes around it.
func meant(some iter.Seq[api.Symbol], scope, name string) iter.Seq[api.Symbol] {
	if full, isFull := strings.CutPrefix(name, "."); isFull {
		scope, name = "", full
	}
	within := scope + "."
	return func(yield func(api.Symbol) bool) {
		for s := range some {
			if means(name, within, s.Name) && !yield(s) {
				return
			}
		}
	}
}

// means tells whether a name means a full name in a scope that ends with a
// period, or in one around it. It does not go from scope to scope, as there may
// be as many of them as the scope has bytes: what stands before the name has to
// be nothing, or one of these scopes with its period.
func means(name, within, full string) bool {
	outer, isEnd := strings.CutSuffix(full, name)
	return isEnd &&
		(outer == "" || strings.HasSuffix(outer, ".")) &&
		strings.HasPrefix(within, outer)
}

// byNearness compares symbols that the same name can mean: the full name is the
// longer, the nearer the scope is in which it means that.
func byNearness(a, b api.Symbol) int { return cmp.Compare(len(b.Name), len(a.Name)) }
