package print

import (
	"strings"

	"signetry/api"
	"signetry/text"
	"signetry/tree"
)

const (
	mostOneofs = 16
	noOneof    = -1

	// greatest is what a number of a text may be at most; least is that with a
	// minus, in enums.
	greatest = 1 << 31
	least    = -greatest
)

// isTree tells whether tree.Parse can return a tree, apart from its offsets.
func isTree(t api.Tree) bool {
	return (t.Package == "" || text.IsFull(t.Package)) &&
		every(t.Imports, api.MaxFiles, isImport) &&
		areMessages(t.Msgs, 1) &&
		every(t.Enums, api.MaxMsgs, isEnum) &&
		every(t.Svcs, api.MaxValues, isService)
}

// every tells whether a list has no more elements than it may have, and each of
// them is what it has to be.
func every[T any](l []T, most int, is func(T) bool) bool {
	if len(l) > most {
		return false
	}
	for _, x := range l {
		if !is(x) {
			return false
		}
	}
	return true
}

func isImport(i api.Import) bool {
	return tree.IsPath(i.Path)
}

// areMessages asks for the depth first, so that it ends soon for all trees.
func areMessages(l []api.MsgDef, deep int) bool {
	return (len(l) == 0 || deep <= api.MaxDeep) &&
		every(l, api.MaxMsgs, func(m api.MsgDef) bool { return isMessage(m, deep) })
}

func isMessage(m api.MsgDef, deep int) bool {
	return text.IsIdent(m.Name) &&
		every(m.Oneofs, mostOneofs, isIdent) &&
		every(m.Fields, api.MaxFields, func(f api.FieldDef) bool { return isField(f, len(m.Oneofs)) }) &&
		inOrder(m.Fields) &&
		areMessages(m.Msgs, deep+1) &&
		every(m.Enums, api.MaxMsgs, isEnum) &&
		every(m.Ranges, api.MaxValues, func(s api.Span) bool { return isRange(s, 0) }) &&
		every(m.Names, api.MaxValues, isIdent)
}

func isIdent(t api.Text) bool {
	return text.IsIdent(t.S)
}

// isField tells whether a field may be in a message with that many oneofs.
func isField(f api.FieldDef, oneofs int) bool {
	return text.IsIdent(f.Name) &&
		isNumber(f.Num, 0) &&
		f.Oneof >= noOneof && f.Oneof < oneofs &&
		isCard(f) &&
		isName(f.Type) && !startsOther(f)
}

// isCard tells whether the card of a field goes with its key and its oneof.
func isCard(f api.FieldDef) bool {
	if f.Oneof != noOneof && f.Card != api.Opt {
		return false
	}
	switch f.Card {
	case api.One, api.Opt, api.Rep:
		return f.Key == ""
	case api.Map:
		return isName(f.Key)
	}
	return false
}

// isName tells whether a string is the name of a type, as it is written.
func isName(s string) bool {
	return len(s) <= api.MaxFull && text.IsFull(strings.TrimPrefix(s, "."))
}

// startsOther tells whether a field begins with its type, and that with a
// keyword, so that it would be read as something else. (With a leading period
// the first identifier is taken to be empty, which is no keyword.)
func startsOther(f api.FieldDef) bool {
	first, _, _ := strings.Cut(f.Type, ".")
	if f.Oneof != noOneof {
		return startsNoChoice(first)
	}
	return f.Card == api.One && startsNoField(first)
}

func startsNoChoice(s string) bool {
	switch s {
	case "option", "optional", "repeated", "map", "group":
		return true
	}
	return false
}

func startsNoField(s string) bool {
	switch s {
	case "message", "enum", "oneof", "reserved", "extensions", "extend":
		return true
	}
	return startsNoChoice(s)
}

// inOrder tells whether the fields of each oneof are consecutive, and come
// after those of the oneofs before it.
func inOrder(l []api.FieldDef) bool {
	before, last := noOneof, noOneof
	for _, f := range l {
		if f.Oneof != noOneof && f.Oneof != before && f.Oneof <= last {
			return false
		}
		before, last = f.Oneof, max(last, f.Oneof)
	}
	return true
}

func isEnum(n api.EnumDef) bool {
	return text.IsIdent(n.Name) &&
		every(n.Values, api.MaxValues, isValue) &&
		every(n.Ranges, api.MaxValues, func(s api.Span) bool { return isRange(s, least) }) &&
		every(n.Names, api.MaxValues, isIdent)
}

func isValue(v api.ValueDef) bool {
	return text.IsIdent(v.Name) && v.Name != "reserved" && v.Name != "option" && isNumber(v.Num, least)
}

func isNumber(n, from int) bool {
	return n >= from && n <= greatest
}

func isRange(s api.Span, from int) bool {
	return isNumber(s.Lo, from) && isNumber(s.Hi, from) && s.Lo <= s.Hi
}

func isService(s api.SvcDef) bool {
	return text.IsIdent(s.Name) && every(s.Rpcs, api.MaxValues, isRpc)
}

func isRpc(r api.RpcDef) bool {
	return text.IsIdent(r.Name) && isName(r.In) && isName(r.Out)
}
