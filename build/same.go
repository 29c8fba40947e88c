package build

import (
	"slices"

	"signetry/api"
)

func sameFile(a, b api.File) bool {
	return a.Path == b.Path && a.Package == b.Package && slices.Equal(a.Imports, b.Imports)
}

func sameMsg(a, b api.Msg) bool {
	return a.Path == b.Path && a.Name == b.Name &&
		slices.Equal(a.Fields, b.Fields) &&
		slices.Equal(a.Oneofs, b.Oneofs) &&
		slices.Equal(a.Ranges, b.Ranges) &&
		slices.Equal(a.Names, b.Names)
}

func sameEnum(a, b api.Enum) bool {
	return a.Path == b.Path && a.Name == b.Name &&
		slices.Equal(a.Values, b.Values) &&
		slices.Equal(a.Ranges, b.Ranges) &&
		slices.Equal(a.Names, b.Names)
}

func sameSvc(a, b api.Svc) bool {
	return a.Path == b.Path && a.Name == b.Name && slices.Equal(a.Rpcs, b.Rpcs)
}
