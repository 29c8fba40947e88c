package check

import (
	"slices"

	"signetry/api"
)

// span is a reserved range, with the ranges that are ahead of it, and the least
// and the greatest number that it may contain.
type span struct {
	api.Span
	earlier     []api.Span
	least, most int
}

func (f file) checkRanges(l []api.Span, least, most int) {
	for i, def := range l {
		x := &span{def, l[:i], least, most}
		rules := [...]rule{
			{x.isOutside, x.At, api.ErrNumber},
			{x.isTwice, x.At, api.ErrNumber},
		}
		f.check(rules[:])
	}
}

func (x *span) isOutside() bool { return x.Lo < x.least || x.Hi > x.most }

// Ranges with a number in common begin ahead of each other's end.
func (x *span) isTwice() bool {
	return slices.ContainsFunc(x.earlier, func(o api.Span) bool { return o.Lo <= x.Hi && x.Lo <= o.Hi })
}

// name is a reserved name, with the names that are ahead of it.
type name struct {
	api.Text
	earlier []api.Text
}

func (f file) checkNames(l []api.Text) {
	for i, def := range l {
		x := &name{def, l[:i]}
		rules := [...]rule{
			{x.isTwice, x.At, api.ErrTwice},
		}
		f.check(rules[:])
	}
}

func (x *name) isTwice() bool { return inNames(x.earlier, x.S) }

func inRanges(l []api.Span, n int) bool {
	return slices.ContainsFunc(l, func(s api.Span) bool { return s.Lo <= n && n <= s.Hi })
}

func inNames(l []api.Text, s string) bool {
	return slices.ContainsFunc(l, func(t api.Text) bool { return t.S == s })
}
