package check

import (
	"slices"

	"signetry/api"
	"signetry/kinds"
	"signetry/scope"
)

// Numbers that no field has, ahead of those that are too great.
const (
	firstKept = 19000
	lastKept  = 19999
)

func (f file) checkMessages(outer string, l []api.MsgDef) {
	for i, m := range l {
		full := joined(outer, m.Name)
		f.checkFields(&l[i], scope.Scopes(full))
		f.checkOneofs(&l[i])
		f.checkRanges(m.Ranges, 1, api.MaxNum)
		f.checkNames(m.Names)
		f.checkMessages(full, m.Msgs)
		f.checkEnums(m.Enums)
	}
}

// field is a field, with its message, the fields that are ahead of it there, its
// key, and what its type means.
type field struct {
	api.FieldDef
	of      *api.MsgDef
	earlier []field
	key     string
	meaning int
}

func (f file) checkFields(m *api.MsgDef, scopes []string) {
	all := make([]field, len(m.Fields))
	for i, def := range m.Fields {
		all[i] = field{def, m, all[:i], Key(def), f.typeMeaning(scopes, def.Type)}
		f.checkField(&all[i])
	}
}

// basic is the meaning of the names of types, whatever is declared.
const basic = -1

func (f file) typeMeaning(scopes []string, name string) int {
	if kinds.Type(name) != 0 {
		return basic
	}
	return f.meaning(scopes, name)
}

func (f file) checkField(x *field) {
	rules := [...]rule{
		{x.isTwice, x.At, api.ErrTwice},
		{x.hasWrongNumber, x.NumAt, api.ErrNumber},
		{x.isInRange, x.NumAt, api.ErrReserved},
		{x.isReserved, x.At, api.ErrReserved},
		{x.hasWrongKey, x.At, api.ErrKey},
		{x.hasNoType, x.TypeAt, api.ErrName},
		{x.hasService, x.TypeAt, api.ErrKind},
		{x.hasWrongMapKey, x.TypeAt, api.ErrKind},
	}
	f.check(rules[:])
}

func (x *field) isTwice() bool {
	return slices.ContainsFunc(x.earlier, func(o field) bool { return o.Name == x.Name })
}

func (x *field) hasWrongNumber() bool {
	return x.Num == 0 || x.Num > api.MaxNum || x.Num >= firstKept && x.Num <= lastKept ||
		slices.ContainsFunc(x.earlier, func(o field) bool { return o.Num == x.Num })
}

func (x *field) isInRange() bool {
	return inRanges(x.of.Ranges, x.Num)
}

func (x *field) isReserved() bool {
	return inNames(x.of.Names, x.Name) || inNames(x.of.Names, x.key)
}

func (x *field) hasWrongKey() bool {
	return !IsKey(x.key) ||
		slices.ContainsFunc(x.earlier, func(o field) bool { return o.key == x.key })
}

func (x *field) hasNoType() bool { return x.meaning == nothing }

func (x *field) hasService() bool { return x.meaning == api.SymSvc }

func (x *field) hasWrongMapKey() bool {
	return x.Card == api.Map && !kinds.Key(kinds.Type(x.Key))
}

// oneof is a oneof, with its message, and where it is there.
type oneof struct {
	api.Text
	of    *api.MsgDef
	index int
}

func (f file) checkOneofs(m *api.MsgDef) {
	for i, def := range m.Oneofs {
		x := &oneof{def, m, i}
		rules := [...]rule{
			{x.isTwice, x.At, api.ErrTwice},
			{x.isEmpty, x.At, api.ErrSyntax},
		}
		f.check(rules[:])
	}
}

func (x *oneof) isTwice() bool {
	return inNames(x.of.Oneofs[:x.index], x.S)
}

func (x *oneof) isEmpty() bool {
	return !slices.ContainsFunc(x.of.Fields, func(def api.FieldDef) bool { return def.Oneof == x.index })
}
