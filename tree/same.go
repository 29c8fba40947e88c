package tree

import (
	"slices"

	"signetry/api"
)

// Parts that have no lists are compared whole, once one has the offsets of the
// other.

func sameImport(a, b api.Import) bool {
	a.At = b.At
	return a == b
}

func sameMsg(a, b api.MsgDef) bool {
	return a.Name == b.Name &&
		slices.EqualFunc(a.Fields, b.Fields, sameField) &&
		slices.EqualFunc(a.Oneofs, b.Oneofs, sameText) &&
		slices.EqualFunc(a.Msgs, b.Msgs, sameMsg) &&
		slices.EqualFunc(a.Enums, b.Enums, sameEnum) &&
		slices.EqualFunc(a.Ranges, b.Ranges, sameSpan) &&
		slices.EqualFunc(a.Names, b.Names, sameText)
}

func sameField(a, b api.FieldDef) bool {
	a.At, a.TypeAt, a.NumAt = b.At, b.TypeAt, b.NumAt
	return a == b
}

func sameEnum(a, b api.EnumDef) bool {
	return a.Name == b.Name &&
		slices.EqualFunc(a.Values, b.Values, sameValue) &&
		slices.EqualFunc(a.Ranges, b.Ranges, sameSpan) &&
		slices.EqualFunc(a.Names, b.Names, sameText)
}

func sameValue(a, b api.ValueDef) bool {
	a.At = b.At
	return a == b
}

func sameSpan(a, b api.Span) bool {
	a.At = b.At
	return a == b
}

func sameText(a, b api.Text) bool {
	a.At = b.At
	return a == b
}

func sameSvc(a, b api.SvcDef) bool {
	return a.Name == b.Name && slices.EqualFunc(a.Rpcs, b.Rpcs, sameRpc)
}

func sameRpc(a, b api.RpcDef) bool {
	a.At, a.InAt, a.OutAt = b.At, b.InAt, b.OutAt
	return a == b
}
