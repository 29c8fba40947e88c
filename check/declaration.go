package check

import "signetry/api"

// declaration is a symbol, with those that are ahead of it, and how many of them
// are of its kind.
type declaration struct {
	api.Symbol
	earlier []api.Symbol
	ofKind  int
}

// checkDeclarations checks all symbols, which are in the order of scope.All.
func checkDeclarations(all []api.Symbol, found diagnostics) {
	var count [api.SymSvc + 1]int
	for i, s := range all {
		d := &declaration{s, all[:i], count[s.Kind]}
		count[s.Kind]++
		rules := [...]rule{
			{d.isLong, d.At, api.ErrLimit},
			{d.isTwice, d.At, api.ErrTwice},
			{d.isTooMany, d.At, api.ErrLimit},
		}
		found.check(d.Path, rules[:])
	}
}

func (d *declaration) isLong() bool { return len(d.Name) > api.MaxFull }

func (d *declaration) isTwice() bool {
	i := len(d.earlier) - 1
	return i >= 0 && d.earlier[i].Name == d.Name
}

func (d *declaration) isTooMany() bool { return d.ofKind >= api.MaxMsgs }
