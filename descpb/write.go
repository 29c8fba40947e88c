package descpb

import (
	"signetry/api"
)

func (w *writer) file(f api.File) {
	w.text(filePath, f.Path)
	if f.Package != "" {
		w.text(filePackage, f.Package)
	}
	for _, d := range f.Imports {
		w.text(fileImport, d.Path)
	}
	parts(w, fileMsg, w.msgsIn(f.Path, f.Package), w.msg)
	parts(w, fileEnum, w.enumsIn(f.Path, f.Package), w.enum)
	parts(w, fileSvc, w.svcsIn(f.Path), w.svc)
	for i, d := range f.Imports {
		if d.Public {
			w.number(filePublic, i)
		}
	}
	w.text(fileSyntax, syntax)
}

func (w *writer) msg(m api.Msg) {
	w.text(msgName, lastOf(m.Name))
	parts(w, msgField, plainFields(m), w.field)
	parts(w, msgMsg, w.msgsIn(m.Path, m.Name), w.msg)
	parts(w, msgMsg, mapsOf(m), w.entry)
	parts(w, msgEnum, w.enumsIn(m.Path, m.Name), w.enum)
	parts(w, msgOneof, m.Oneofs, w.oneof)
	parts(w, msgRange, m.Ranges, w.rangeBelow)
	for _, name := range m.Names {
		w.text(msgReserved, name)
	}
}

func (w *writer) field(x api.Field) {
	w.typed(x)
	if x.Oneof != -1 {
		w.number(fieldOneof, x.Oneof)
	}
	w.text(fieldJson, x.Json)
	if x.Card == api.Opt && x.Oneof == -1 && x.Type != api.TMsg {
		w.number(fieldOptional, 1)
	}
}

// typed writes what a field has in common with the fields of an entry.
func (w *writer) typed(x api.Field) {
	w.text(fieldName, x.Name)
	w.number(fieldNum, x.Num)
	w.number(fieldLabel, labelOf(x))
	w.number(fieldType, x.Type)
	if x.Ref != "" {
		w.reference(fieldRef, x.Ref)
	}
}

func labelOf(x api.Field) int {
	if x.Card == api.Rep {
		return labelMany
	}
	return labelOne
}

// entry writes the entry of a map.
func (w *writer) entry(x api.Field) {
	w.text(msgName, entryOf(x))
	parts(w, msgField, []api.Field{
		{Name: "key", Num: 1, Type: x.Key},
		{Name: "value", Num: 2, Type: x.Type, Ref: x.Ref},
	}, w.typed)
	parts(w, msgOptions, []int{1}, w.options)
}

func (w *writer) options(isEntry int) {
	w.number(optionEntry, isEntry)
}

func (w *writer) oneof(name string) {
	w.text(oneofName, name)
}

func (w *writer) enum(n api.Enum) {
	w.text(enumName, lastOf(n.Name))
	parts(w, enumValue, n.Values, w.value)
	parts(w, enumRange, n.Ranges, w.rangeUpTo)
	for _, name := range n.Names {
		w.text(enumReserved, name)
	}
}

func (w *writer) value(v api.Value) {
	w.text(valueName, v.Name)
	w.number(valueNum, v.Num)
}

// rangeUpTo writes the range of an enum, of which the last number is a part.
func (w *writer) rangeUpTo(r [2]int) {
	w.number(rangeLo, r[0])
	w.number(rangeHi, r[1])
}

// rangeBelow writes the range of a message, of which the last number is no part.
func (w *writer) rangeBelow(r [2]int) {
	w.rangeUpTo([2]int{r[0], r[1] + 1})
}

func (w *writer) svc(v api.Svc) {
	w.text(svcName, lastOf(v.Name))
	parts(w, svcRpc, v.Rpcs, w.rpc)
}

func (w *writer) rpc(r api.Rpc) {
	w.text(rpcName, r.Name)
	w.reference(rpcIn, r.In)
	w.reference(rpcOut, r.Out)
}
