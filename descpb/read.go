package descpb

import (
	"strings"

	"signetry/api"
)

// home is where something is declared: in which file, directly in what, and in how
// many messages.
type home struct {
	path, name string
	deep       int
}

// full is the action that keeps the last name of what is declared there, as a full
// one.
func (h home) full(to *string) func(api.Rec) {
	return func(r api.Rec) { *to = joined(h.name, textOf(r)) }
}

func (in *reader) file(r api.Rec) {
	var f api.File
	here := func() home { return home{f.Path, f.Package, 0} }
	read(r.B, actions{
		filePath:    text(&f.Path),
		filePackage: text(&f.Package),
		fileImport:  func(r api.Rec) { f.Imports = append(f.Imports, api.Import{Path: textOf(r)}) },
		fileMsg:     func(r api.Rec) { in.msg(r, here()) },
		fileEnum:    func(r api.Rec) { in.enum(r, here()) },
		fileSvc:     func(r api.Rec) { in.svc(r, here()) },
		filePublic:  func(r api.Rec) { publish(f.Imports, r) },
		fileSyntax:  func(r api.Rec) { need(textOf(r) == syntax) },
	})
	in.set.Files = append(in.set.Files, f)
}

// publish makes the import with an index public.
func publish(l []api.Import, r api.Rec) {
	var i int
	number(&i)(r)
	need(i >= 0 && i < len(l))
	l[i].Public = true
}

// msg reads a message with all that is declared in it, or the entry of a map. An
// entry may be in a message that is as deep as messages may be.
func (in *reader) msg(r api.Rec, outer home) {
	need(outer.deep <= api.MaxDeep)
	m := api.Msg{Path: strings.Clone(outer.path)}
	isEntry := false
	here := func() home { return home{m.Path, m.Name, outer.deep + 1} }
	read(r.B, actions{
		msgName:     outer.full(&m.Name),
		msgField:    func(r api.Rec) { m.Fields = append(m.Fields, fieldOf(r)) },
		msgMsg:      func(r api.Rec) { in.msg(r, here()) },
		msgEnum:     func(r api.Rec) { in.enum(r, here()) },
		msgOptions:  func(api.Rec) { isEntry = true },
		msgOneof:    func(r api.Rec) { m.Oneofs = append(m.Oneofs, oneofOf(r)) },
		msgRange:    func(r api.Rec) { m.Ranges = append(m.Ranges, rangeOf(r, 1)) },
		msgReserved: texts(&m.Names),
	})
	if isEntry {
		in.entries[m.Name] = m
		return
	}
	for i := range m.Fields {
		in.makeMap(&m.Fields[i])
	}
	in.set.Msgs = append(in.set.Msgs, m)
}

// makeMap makes a field whose type is an entry the map that has this entry.
func (in *reader) makeMap(x *api.Field) {
	entry, isMap := in.entries[x.Ref]
	if !isMap {
		return
	}
	need(len(entry.Fields) == 2)
	key, value := entry.Fields[0], entry.Fields[1]
	x.Card, x.Key, x.Type, x.Ref = api.Map, key.Type, value.Type, value.Ref
}

func fieldOf(r api.Rec) api.Field {
	x := api.Field{Oneof: -1}
	var label, optional int
	read(r.B, actions{
		fieldName:     text(&x.Name),
		fieldNum:      number(&x.Num),
		fieldLabel:    number(&label),
		fieldType:     number(&x.Type),
		fieldRef:      reference(&x.Ref),
		fieldOneof:    number(&x.Oneof),
		fieldJson:     text(&x.Json),
		fieldOptional: number(&optional),
	})
	x.Card = cardOf(x, label, optional)
	return x
}

// cardOf is the card of a field, if it is no map.
func cardOf(x api.Field, label, optional int) int {
	switch {
	case label == labelMany:
		return api.Rep
	case x.Type == api.TMsg || x.Oneof != -1 || optional == 1:
		return api.Opt
	}
	return api.One
}

func oneofOf(r api.Rec) string {
	var name string
	read(r.B, actions{oneofName: text(&name)})
	return name
}

// rangeOf is a range of which the last number is encoded as one that is so much
// greater.
func rangeOf(r api.Rec, more int) [2]int {
	var lo, hi int
	read(r.B, actions{rangeLo: number(&lo), rangeHi: number(&hi)})
	return [2]int{lo, hi - more}
}

func (in *reader) enum(r api.Rec, outer home) {
	n := api.Enum{Path: strings.Clone(outer.path)}
	read(r.B, actions{
		enumName:     outer.full(&n.Name),
		enumValue:    func(r api.Rec) { n.Values = append(n.Values, valueOf(r)) },
		enumRange:    func(r api.Rec) { n.Ranges = append(n.Ranges, rangeOf(r, 0)) },
		enumReserved: texts(&n.Names),
	})
	in.set.Enums = append(in.set.Enums, n)
}

func valueOf(r api.Rec) api.Value {
	var v api.Value
	read(r.B, actions{valueName: text(&v.Name), valueNum: number(&v.Num)})
	return v
}

func (in *reader) svc(r api.Rec, outer home) {
	v := api.Svc{Path: strings.Clone(outer.path)}
	read(r.B, actions{
		svcName: outer.full(&v.Name),
		svcRpc:  func(r api.Rec) { v.Rpcs = append(v.Rpcs, rpcOf(r)) },
	})
	in.set.Svcs = append(in.set.Svcs, v)
}

func rpcOf(r api.Rec) api.Rpc {
	var c api.Rpc
	read(r.B, actions{
		rpcName: text(&c.Name),
		rpcIn:   reference(&c.In),
		rpcOut:  reference(&c.Out),
	})
	return c
}
