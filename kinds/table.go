package kinds

import (
	"iter"
	"sync"

	"signetry/api"
)

// Wire types, as in layer 1.
const (
	noWire     = -1
	wireVarint = 0
	wireEight  = 1
	wireBytes  = 2
	wireFour   = 5
)

// kind is a row of the table: a type, its name in files, its class, its wire type,
// and the kind of its values. If these are integers, the magnitudes of the least
// one (0 if none has a sign) and of the greatest one follow.
type kind struct {
	number              int
	name                string
	class, wire, domain int
	below, above        uint64
}

// types is the table: what most of the exported functions look types up in, so that
// their answers hang on nothing that is kept.
func types() [17]kind {
	return [17]kind{
		{api.TInt32, "int32", 1, wireVarint, api.KInt, 1 << 31, 1<<31 - 1},
		{api.TInt64, "int64", 1, wireVarint, api.KInt, 1 << 63, 1<<63 - 1},
		{api.TUint32, "uint32", 1, wireVarint, api.KInt, 0, 1<<32 - 1},
		{api.TUint64, "uint64", 1, wireVarint, api.KInt, 0, 1<<64 - 1},
		{api.TBool, "bool", 1, wireVarint, api.KInt, 0, 1},
		{api.TEnum, "", 1, wireVarint, api.KInt, 1 << 31, 1<<31 - 1},
		{api.TSint32, "sint32", 2, wireVarint, api.KInt, 1 << 31, 1<<31 - 1},
		{api.TSint64, "sint64", 2, wireVarint, api.KInt, 1 << 63, 1<<63 - 1},
		{api.TFixed32, "fixed32", 3, wireFour, api.KInt, 0, 1<<32 - 1},
		{api.TSfixed32, "sfixed32", 3, wireFour, api.KInt, 1 << 31, 1<<31 - 1},
		{api.TFixed64, "fixed64", 4, wireEight, api.KInt, 0, 1<<64 - 1},
		{api.TSfixed64, "sfixed64", 4, wireEight, api.KInt, 1 << 63, 1<<63 - 1},
		{api.TFloat, "float", 5, wireFour, api.KF32, 0, 0},
		{api.TDouble, "double", 6, wireEight, api.KF64, 0, 0},
		{api.TString, "string", 7, wireBytes, api.KBytes, 0, 0},
		{api.TBytes, "bytes", 8, wireBytes, api.KBytes, 0, 0},
		{api.TMsg, "", 9, wireBytes, api.KMsg, 0, 0},
	}
}

// The table that is created once; Name looks types up in it.
var (
	once  sync.Once
	table [17]kind
)

// fill writes it.
func fill() { table = types() }

// created is the table that was created once.
func created() [17]kind {
	once.Do(fill)
	return table
}

// rows traverses a table.
func rows(of [17]kind) iter.Seq[kind] {
	return func(yield func(kind) bool) {
		for _, k := range of {
			if !yield(k) {
				return
			}
		}
	}
}

// first is the first row of its sort in a table, or one of no type.
func first(of [17]kind, is func(kind) bool) kind {
	for k := range rows(of) {
		if is(k) {
			return k
		}
	}
	return kind{wire: noWire}
}

// numbered is the row of a type in a table, or one of no type.
func numbered(of [17]kind, t int) kind {
	return first(of, func(k kind) bool { return k.number == t })
}

// ofType is the row of a type, or one of no type.
func ofType(t int) kind { return numbered(types(), t) }
