package build

import (
	"cmp"
	"slices"
	"strings"

	"signetry/api"
	"signetry/check"
	"signetry/files"
	"signetry/kinds"
	"signetry/scope"
)

// linker adds what a file declares to a set: it has the path of the file, and what
// full names mean there.
type linker struct {
	path  string
	meant map[string]api.Symbol
	set   *api.Set
}

// linked is the set of units that have no diagnostics.
func linked(l []api.Unit) api.Set {
	var s api.Set
	all := scope.All(l)
	for _, u := range l {
		s.Files = append(s.Files, linkFile(u))
		k := linker{u.Path, meanings(all, files.Sees(l, u.Path)), &s}
		k.addMsgs(u.Tree.Package, u.Tree.Msgs)
		k.addEnums(u.Tree.Package, u.Tree.Enums)
		k.addSvcs(u.Tree.Package, u.Tree.Svcs)
	}
	slices.SortFunc(s.Msgs, func(a, b api.Msg) int { return strings.Compare(a.Name, b.Name) })
	slices.SortFunc(s.Enums, func(a, b api.Enum) int { return strings.Compare(a.Name, b.Name) })
	slices.SortFunc(s.Svcs, func(a, b api.Svc) int { return strings.Compare(a.Name, b.Name) })
	return s
}

func linkFile(u api.Unit) api.File {
	f := copyFile(api.File{Path: u.Path, Package: u.Tree.Package, Imports: u.Tree.Imports})
	for i := range f.Imports {
		f.Imports[i].At = 0
	}
	return f
}

// addMsgs adds messages that are declared in a package, or in a message, and all
// that is declared in them.
func (k linker) addMsgs(outer string, l []api.MsgDef) {
	for _, m := range l {
		full := joined(outer, m.Name)
		k.set.Msgs = append(k.set.Msgs, k.linkMsg(full, m))
		k.addMsgs(full, m.Msgs)
		k.addEnums(full, m.Enums)
	}
}

func (k linker) linkMsg(full string, m api.MsgDef) api.Msg {
	fields := linkEach(m.Fields, resolverIn(k.meant, full), linkField)
	slices.SortFunc(fields, func(a, b api.Field) int { return cmp.Compare(a.Num, b.Num) })
	return api.Msg{
		Path:   strings.Clone(k.path),
		Name:   strings.Clone(full),
		Fields: fields,
		Oneofs: wordsOf(m.Oneofs),
		Ranges: rangesOf(m.Ranges),
		Names:  slices.Sorted(slices.Values(wordsOf(m.Names))),
	}
}

func linkField(def api.FieldDef, resolve resolver) api.Field {
	x := api.Field{
		Name:  strings.Clone(def.Name),
		Json:  check.Key(def),
		Num:   def.Num,
		Type:  kinds.Type(def.Type),
		Card:  def.Card,
		Key:   kinds.Type(def.Key),
		Oneof: def.Oneof,
	}
	if x.Type == 0 {
		refer(&x, resolve(def.Type))
	}
	return x
}

// refer makes a field one of the type that a symbol is. There is no message
// without presence.
func refer(x *api.Field, s api.Symbol) {
	x.Ref = strings.Clone(s.Name)
	if s.Kind == api.SymEnum {
		x.Type = api.TEnum
		return
	}
	x.Type = api.TMsg
	if x.Card == api.One {
		x.Card = api.Opt
	}
}

func (k linker) addEnums(outer string, l []api.EnumDef) {
	for _, n := range l {
		k.set.Enums = append(k.set.Enums, api.Enum{
			Path:   strings.Clone(k.path),
			Name:   strings.Clone(joined(outer, n.Name)),
			Values: valuesOf(n.Values),
			Ranges: rangesOf(n.Ranges),
			Names:  slices.Sorted(slices.Values(wordsOf(n.Names))),
		})
	}
}

func (k linker) addSvcs(outer string, l []api.SvcDef) {
	for _, v := range l {
		full := joined(outer, v.Name)
		k.set.Svcs = append(k.set.Svcs, api.Svc{
			Path: strings.Clone(k.path),
			Name: strings.Clone(full),
			Rpcs: linkEach(v.Rpcs, resolverIn(k.meant, full), linkRpc),
		})
	}
}

func linkRpc(def api.RpcDef, resolve resolver) api.Rpc {
	return api.Rpc{
		Name: strings.Clone(def.Name),
		In:   strings.Clone(resolve(def.In).Name),
		Out:  strings.Clone(resolve(def.Out).Name),
	}
}

func valuesOf(l []api.ValueDef) []api.Value {
	var all []api.Value
	for _, v := range l {
		all = append(all, api.Value{Name: strings.Clone(v.Name), Num: v.Num})
	}
	return all
}

func wordsOf(l []api.Text) []string {
	var all []string
	for _, w := range l {
		all = append(all, strings.Clone(w.S))
	}
	return all
}

// rangesOf is ranges by their first numbers.
func rangesOf(l []api.Span) [][2]int {
	var all [][2]int
	for _, r := range l {
		all = append(all, [2]int{r.Lo, r.Hi})
	}
	slices.SortFunc(all, func(a, b [2]int) int { return cmp.Compare(a[0], b[0]) })
	return all
}
