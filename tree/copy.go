package tree

import (
	"strings"

	"signetry/api"
)

// copier copies trees; of an offset it tells what the copy has in its place.
type copier func(at int) int

func (c copier) tree(t api.Tree) api.Tree {
	return api.Tree{
		Package: strings.Clone(t.Package),
		Imports: each(t.Imports, c.imported),
		Msgs:    each(t.Msgs, c.msg),
		Enums:   each(t.Enums, c.enum),
		Svcs:    each(t.Svcs, c.svc),
	}
}

// each is the copies of a list's elements.
func each[T any](l []T, of func(T) T) []T {
	var out []T
	for _, x := range l {
		out = append(out, of(x))
	}
	return out
}

func (c copier) imported(i api.Import) api.Import {
	i.Path, i.At = strings.Clone(i.Path), c(i.At)
	return i
}

func (c copier) msg(m api.MsgDef) api.MsgDef {
	return api.MsgDef{
		Name:   strings.Clone(m.Name),
		At:     c(m.At),
		Fields: each(m.Fields, c.field),
		Oneofs: each(m.Oneofs, c.text),
		Msgs:   each(m.Msgs, c.msg),
		Enums:  each(m.Enums, c.enum),
		Ranges: each(m.Ranges, c.span),
		Names:  each(m.Names, c.text),
	}
}

func (c copier) field(f api.FieldDef) api.FieldDef {
	f.Name, f.Type = strings.Clone(f.Name), strings.Clone(f.Type)
	f.Key, f.Json = strings.Clone(f.Key), strings.Clone(f.Json)
	f.At, f.TypeAt, f.NumAt = c(f.At), c(f.TypeAt), c(f.NumAt)
	return f
}

func (c copier) enum(n api.EnumDef) api.EnumDef {
	return api.EnumDef{
		Name:   strings.Clone(n.Name),
		At:     c(n.At),
		Values: each(n.Values, c.value),
		Ranges: each(n.Ranges, c.span),
		Names:  each(n.Names, c.text),
	}
}

func (c copier) value(v api.ValueDef) api.ValueDef {
	v.Name, v.At = strings.Clone(v.Name), c(v.At)
	return v
}

func (c copier) span(s api.Span) api.Span {
	s.At = c(s.At)
	return s
}

func (c copier) text(t api.Text) api.Text {
	t.S, t.At = strings.Clone(t.S), c(t.At)
	return t
}

func (c copier) svc(s api.SvcDef) api.SvcDef {
	return api.SvcDef{Name: strings.Clone(s.Name), At: c(s.At), Rpcs: each(s.Rpcs, c.rpc)}
}

func (c copier) rpc(r api.RpcDef) api.RpcDef {
	r.Name, r.In, r.Out = strings.Clone(r.Name), strings.Clone(r.In), strings.Clone(r.Out)
	r.At, r.InAt, r.OutAt = c(r.At), c(r.InAt), c(r.OutAt)
	return r
}
