package build

import (
	"slices"

	"signetry/api"
	"signetry/check"
	"signetry/kinds"
	"signetry/text"
)

// Limits of a message, an enum and a service that api does not name.
const (
	mostOneofs   = 16
	mostReserved = 64
	mostRpcs     = 64
)

// Numbers that no field has, ahead of those that are too great.
const (
	firstKept = 19000
	lastKept  = 19999
)

func isMsg(m api.Msg, in place) bool {
	return (in.isOuter(m.Name) || in.isInner(m.Name)) && in.depth(m.Name) <= api.MaxDeep &&
		areFields(m, in) &&
		areOneofs(m) &&
		areRanges(m.Ranges, 1, api.MaxNum) &&
		areNames(m.Names)
}

func areFields(m api.Msg, in place) bool {
	return len(m.Fields) <= api.MaxFields && len(m.Oneofs) <= mostOneofs &&
		len(m.Ranges) <= mostReserved && len(m.Names) <= mostReserved &&
		rise(m.Fields, func(x api.Field) int { return x.Num }) &&
		differ(m.Fields, func(x api.Field) string { return x.Name }) &&
		differ(m.Fields, func(x api.Field) string { return x.Json }) &&
		!has(m.Fields, func(x api.Field) bool { return !isField(x, m, in) })
}

func isField(x api.Field, m api.Msg, in place) bool {
	return isNumber(x.Num) && !inRanges(m.Ranges, x.Num) &&
		text.IsIdent(x.Name) && !slices.Contains(m.Names, x.Name) &&
		check.IsKey(x.Json) && !slices.Contains(m.Names, x.Json) &&
		hasType(x, in) && hasCard(x) && hasOneof(x, m)
}

func isNumber(n int) bool {
	return n >= 1 && n <= api.MaxNum && (n < firstKept || n > lastKept)
}

func hasType(x api.Field, in place) bool {
	switch x.Type {
	case api.TMsg:
		return in.sees(api.SymMsg, x.Ref)
	case api.TEnum:
		return in.sees(api.SymEnum, x.Ref)
	}
	return kinds.Class(x.Type) != 0 && x.Ref == ""
}

func hasCard(x api.Field) bool {
	switch x.Card {
	case api.One:
		return x.Key == 0 && x.Type != api.TMsg
	case api.Opt, api.Rep:
		return x.Key == 0
	case api.Map:
		return kinds.Key(x.Key)
	}
	return false
}

func hasOneof(x api.Field, m api.Msg) bool {
	return x.Oneof == -1 ||
		x.Oneof >= 0 && x.Oneof < len(m.Oneofs) && x.Card == api.Opt
}

func areOneofs(m api.Msg) bool {
	for i, name := range m.Oneofs {
		if !text.IsIdent(name) || !has(m.Fields, func(x api.Field) bool { return x.Oneof == i }) {
			return false
		}
	}
	return differ(m.Oneofs, itself)
}

// areRanges tells whether ranges of numbers from the least to the most one are
// increasing, and do not overlap.
func areRanges(l [][2]int, least, most int) bool {
	before := least - 1
	for _, r := range l {
		if r[0] <= before || r[1] < r[0] || r[1] > most {
			return false
		}
		before = r[1]
	}
	return true
}

func inRanges(l [][2]int, n int) bool {
	return has(l, func(r [2]int) bool { return r[0] <= n && n <= r[1] })
}

// areNames tells whether reserved names are valid.
func areNames(l []string) bool {
	return rise(l, itself) && !has(l, func(name string) bool { return !text.IsIdent(name) })
}

func itself(name string) string { return name }
