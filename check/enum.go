package check

import (
	"slices"

	"signetry/api"
)

// Numbers of the values of enums.
const (
	leastValue = -1 << 31
	mostValue  = 1<<31 - 1
)

type enum struct{ api.EnumDef }

func (f file) checkEnums(l []api.EnumDef) {
	for i, n := range l {
		x := &enum{n}
		rules := [...]rule{
			{x.lacksZero, x.At, api.ErrZero},
		}
		f.check(rules[:])
		f.checkValues(&l[i])
		f.checkRanges(n.Ranges, leastValue, mostValue)
		f.checkNames(n.Names)
	}
}

func (x *enum) lacksZero() bool {
	return len(x.Values) == 0 || x.Values[0].Num != 0
}

// value is a value of an enum, with the values that are ahead of it there.
type value struct {
	api.ValueDef
	of      *api.EnumDef
	earlier []api.ValueDef
}

func (f file) checkValues(n *api.EnumDef) {
	for i, def := range n.Values {
		x := &value{def, n, n.Values[:i]}
		rules := [...]rule{
			{x.isTwice, x.At, api.ErrTwice},
			{x.hasWrongNumber, x.At, api.ErrNumber},
			{x.isReserved, x.At, api.ErrReserved},
		}
		f.check(rules[:])
	}
}

func (x *value) isTwice() bool {
	return slices.ContainsFunc(x.earlier, func(o api.ValueDef) bool { return o.Name == x.Name })
}

func (x *value) hasWrongNumber() bool {
	return x.Num < leastValue || x.Num > mostValue ||
		slices.ContainsFunc(x.earlier, func(o api.ValueDef) bool { return o.Num == x.Num })
}

func (x *value) isReserved() bool {
	return inRanges(x.of.Ranges, x.Num) || inNames(x.of.Names, x.Name)
}
