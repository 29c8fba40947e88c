package build

import (
	"slices"

	"signetry/api"
	"signetry/text"
)

// Numbers of the values of enums.
const (
	leastValue = -1 << 31
	mostValue  = 1<<31 - 1
)

func isEnum(n api.Enum, in place) bool {
	return (in.isOuter(n.Name) || in.isInner(n.Name)) &&
		areValues(n) &&
		areRanges(n.Ranges, leastValue, mostValue) &&
		areNames(n.Names)
}

func areValues(n api.Enum) bool {
	return len(n.Values) >= 1 && len(n.Values) <= api.MaxValues &&
		len(n.Ranges) <= mostReserved && len(n.Names) <= mostReserved &&
		n.Values[0].Num == 0 &&
		differ(n.Values, func(v api.Value) string { return v.Name }) &&
		differ(n.Values, func(v api.Value) int { return v.Num }) &&
		!has(n.Values, func(v api.Value) bool { return !isValue(v, n) })
}

func isValue(v api.Value, n api.Enum) bool {
	return v.Num >= leastValue && v.Num <= mostValue && !inRanges(n.Ranges, v.Num) &&
		isValueName(v.Name) && !slices.Contains(n.Names, v.Name)
}

// isValueName leaves out the keywords that begin something else in an enum.
func isValueName(name string) bool {
	return text.IsIdent(name) && name != "reserved" && name != "option"
}

func isSvc(v api.Svc, in place) bool {
	return in.isOuter(v.Name) &&
		len(v.Rpcs) <= mostRpcs &&
		differ(v.Rpcs, func(r api.Rpc) string { return r.Name }) &&
		!has(v.Rpcs, func(r api.Rpc) bool { return !isRpc(r, in) })
}

func isRpc(r api.Rpc, in place) bool {
	return text.IsIdent(r.Name) && in.sees(api.SymMsg, r.In) && in.sees(api.SymMsg, r.Out)
}
