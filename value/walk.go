package value

import (
	"iter"

	"signetry/api"
)

// mostDeep is a limit that api does not name.
const mostDeep = 30

// isTooGreat tells whether a value exceeds the limits. It looks at no more of it
// than it needs to.
func isTooGreat(v api.Val) bool {
	many := 0
	for _, deep := range values(v) {
		if many++; many > api.MaxNodes || deep > mostDeep {
			return true
		}
	}
	return false
}

// values traverses a value and all that are in it, of whatever kind they are, each
// with its depth.
func values(v api.Val) iter.Seq2[api.Val, int] {
	return func(yield func(api.Val, int) bool) { walk(v, 1, yield) }
}

// walk hands out a value and all that are in it, and tells whether more is asked
// for. It passes on yield itself, so that what is deep inside is handed out at once.
func walk(v api.Val, deep int, yield func(api.Val, int) bool) bool {
	if !yield(v, deep) {
		return false
	}
	for _, x := range v.F {
		for _, inner := range x.L {
			if !walk(inner, deep+1, yield) {
				return false
			}
		}
	}
	return true
}
