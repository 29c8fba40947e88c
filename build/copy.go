package build

import (
	"slices"
	"strings"

	"signetry/api"
)

// copies is a list of copies.
func copies[T any](l []T, copied func(T) T) []T {
	var all []T
	for _, x := range l {
		all = append(all, copied(x))
	}
	return all
}

func copyFile(f api.File) api.File {
	return api.File{
		Path:    strings.Clone(f.Path),
		Package: strings.Clone(f.Package),
		Imports: copies(f.Imports, copyImport),
	}
}

func copyImport(d api.Import) api.Import {
	d.Path = strings.Clone(d.Path)
	return d
}

func copyMsg(m api.Msg) api.Msg {
	return api.Msg{
		Path:   strings.Clone(m.Path),
		Name:   strings.Clone(m.Name),
		Fields: copies(m.Fields, copyField),
		Oneofs: copies(m.Oneofs, strings.Clone),
		Ranges: slices.Clone(m.Ranges),
		Names:  copies(m.Names, strings.Clone),
	}
}

func copyField(x api.Field) api.Field {
	x.Name, x.Json, x.Ref = strings.Clone(x.Name), strings.Clone(x.Json), strings.Clone(x.Ref)
	return x
}

func copyEnum(n api.Enum) api.Enum {
	return api.Enum{
		Path:   strings.Clone(n.Path),
		Name:   strings.Clone(n.Name),
		Values: copies(n.Values, copyValue),
		Ranges: slices.Clone(n.Ranges),
		Names:  copies(n.Names, strings.Clone),
	}
}

func copyValue(v api.Value) api.Value {
	v.Name = strings.Clone(v.Name)
	return v
}

func copySvc(v api.Svc) api.Svc {
	return api.Svc{
		Path: strings.Clone(v.Path),
		Name: strings.Clone(v.Name),
		Rpcs: copies(v.Rpcs, copyRpc),
	}
}

func copyRpc(r api.Rpc) api.Rpc {
	return api.Rpc{Name: strings.Clone(r.Name), In: strings.Clone(r.In), Out: strings.Clone(r.Out)}
}
