package value

import (
	"bytes"
	"slices"
	"strings"

	"signetry/api"
)

// Copy is a value in memory of its own.
func Copy(v api.Val) api.Val {
	v.B, v.Name, v.F = bytes.Clone(v.B), strings.Clone(v.Name), copies(v.F, copySlot)
	return v
}

func copySlot(x api.Slot) api.Slot {
	return api.Slot{Num: x.Num, L: copies(x.L, Copy)}
}

// copies is a list of copies.
func copies[T any](l []T, copied func(T) T) []T {
	all := make([]T, len(l))
	for i, x := range l {
		all[i] = copied(x)
	}
	return all
}

// Get is the list of the first slot with a number.
func Get(v api.Val, num int) []api.Val {
	if at := find(v.F, num); at >= 0 {
		return copies(v.F[at].L, Copy)
	}
	return nil
}

// Put is a value with a list in the slot with a number; without that slot if the
// list is empty.
func Put(v api.Val, num int, l []api.Val) api.Val {
	v = Copy(v)
	at := find(v.F, num)
	switch x := (api.Slot{Num: num, L: copies(l, Copy)}); {
	case at >= 0 && len(l) > 0:
		v.F[at] = x
	case at >= 0:
		v.F = slices.Delete(v.F, at, at+1)
	case len(l) > 0:
		v.F = slices.Insert(v.F, ahead(v.F, num), x)
	}
	return v
}

// find is where the first slot with a number is, or -1.
func find(l []api.Slot, num int) int {
	return slices.IndexFunc(l, func(x api.Slot) bool { return x.Num == num })
}

// ahead is where a slot with a number is put that is not there.
func ahead(l []api.Slot, num int) int {
	if at := slices.IndexFunc(l, func(x api.Slot) bool { return x.Num > num }); at >= 0 {
		return at
	}
	return len(l)
}
