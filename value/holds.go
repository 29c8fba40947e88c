package value

import (
	"slices"

	"signetry/api"
	"signetry/build"
	"signetry/kinds"
	"signetry/text"
)

// Numbers of the slots of an entry.
const (
	slotKey   = 1
	slotValue = 2
)

// holds tells whether the type of a field holds a value.
func holds(s api.Set, f api.Field, v api.Val) bool {
	kind := kinds.Domain(f.Type)
	return v.Kind == kind && !hasMore(v) && checks()[kind](s, f, v)
}

// hasMore tells whether a value has something that values of its kind have not.
func hasMore(v api.Val) bool {
	return v.Neg && v.Kind != api.KInt ||
		v.Mag != 0 && (v.Kind == api.KBytes || v.Kind == api.KMsg) ||
		len(v.B) > 0 && v.Kind != api.KBytes ||
		(v.Name != "" || len(v.F) > 0) && v.Kind != api.KMsg
}

// check tells whether the type of a field holds a value that is of its kind, and has
// nothing more.
type check func(s api.Set, f api.Field, v api.Val) bool

// checks is what checks the values of each kind; what is no type has the kind 0.
func checks() [api.KMsg + 1]check {
	return [...]check{
		0:          isHeldByNone,
		api.KInt:   isInt,
		api.KF32:   isF32,
		api.KF64:   isF64,
		api.KBytes: isBytes,
		api.KMsg:   isMsg,
	}
}

func isHeldByNone(api.Set, api.Field, api.Val) bool { return false }

func isInt(_ api.Set, f api.Field, v api.Val) bool { return kinds.Holds(f.Type, v.Neg, v.Mag) }

func isF32(_ api.Set, _ api.Field, v api.Val) bool { return v.Mag < 1<<32 }

func isF64(api.Set, api.Field, api.Val) bool { return true }

func isBytes(_ api.Set, f api.Field, v api.Val) bool {
	return f.Type != api.TString || text.Valid(v.B)
}

func isMsg(s api.Set, f api.Field, v api.Val) bool {
	m, found := build.Msg(s, f.Ref)
	return found && v.Name == m.Name && areSlots(s, m, v.F)
}

// areSlots tells whether slots are those of a value of a message.
func areSlots(s api.Set, m api.Msg, l []api.Slot) bool {
	var oneofs []int
	for i, x := range l {
		f, found := build.Field(m, x.Num)
		if !found || i > 0 && l[i-1].Num >= x.Num ||
			len(x.L) == 0 || !denotes(s, f, x.L) ||
			slices.Contains(oneofs, f.Oneof) {
			return false
		}
		if f.Oneof >= 0 {
			oneofs = append(oneofs, f.Oneof)
		}
	}
	return true
}

// denotes tells whether a field denotes a list of values within the limits.
func denotes(s api.Set, f api.Field, l []api.Val) bool {
	if len(l) == 0 {
		return true
	}
	switch f.Card {
	case api.One:
		return len(l) == 1 && holds(s, f, l[0]) && !IsZero(l[0])
	case api.Opt:
		return len(l) == 1 && holds(s, f, l[0])
	case api.Rep:
		return !slices.ContainsFunc(l, func(v api.Val) bool { return !holds(s, f, v) })
	case api.Map:
		return areEntries(s, f, l)
	}
	return false
}

// areEntries tells whether values are entries of a map, by their keys.
func areEntries(s api.Set, f api.Field, l []api.Val) bool {
	for i, v := range l {
		if !isEntry(s, f, v) || i > 0 && !Less(keyOf(l[i-1]), keyOf(v)) {
			return false
		}
	}
	return true
}

func isEntry(s api.Set, f api.Field, v api.Val) bool {
	return v.Kind == api.KMsg && !hasMore(v) && v.Name == "" && len(v.F) == 2 &&
		isPart(s, api.Field{Type: f.Key}, v.F[0], slotKey) &&
		isPart(s, f, v.F[1], slotValue)
}

// isPart tells whether a slot of an entry is that of its key, or of its value.
func isPart(s api.Set, f api.Field, x api.Slot, num int) bool {
	return x.Num == num && len(x.L) == 1 && holds(s, f, x.L[0])
}

// keyOf is the key of an entry.
func keyOf(entry api.Val) api.Val { return entry.F[0].L[0] }
