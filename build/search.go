package build

import "iter"

// those traverses the elements of a list that are of a sort.
func those[T any](l []T, is func(T) bool) iter.Seq[T] {
	return func(yield func(T) bool) {
		for _, x := range l {
			if is(x) && !yield(x) {
				return
			}
		}
	}
}

// first is the first one of them, if there is one.
func first[T any](l []T, is func(T) bool) (T, bool) {
	for x := range those(l, is) {
		return x, true
	}
	var none T
	return none, false
}

// has tells whether there is one of them.
func has[T any](l []T, is func(T) bool) bool {
	_, found := first(l, is)
	return found
}
