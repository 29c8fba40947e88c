package kinds_test

import (
	"slices"
	"strings"
	"testing"

	"signetry/api"
	"signetry/kinds"
)

// P17.1: class, wire type, name and domain of all types.
func TestEachType(t *testing.T) {
	if len(types()) != 17 {
		t.Fatal(types())
	}
	for _, r := range writtenRows() {
		got := row{number: r.number, class: kinds.Class(r.number), wire: kinds.Wire(r.number), domain: kinds.Domain(r.number), name: kinds.Name(r.number), least: r.least, greatest: r.greatest}
		if got != r {
			t.Errorf("%+v, want %+v", got, r)
		}
	}
}

// P17.1: the types have the numbers that api gives them.
func TestNumbersOfTypes(t *testing.T) {
	for number, name := range map[int]string{
		api.TDouble: "double", api.TFloat: "float", api.TInt64: "int64", api.TUint64: "uint64", api.TInt32: "int32",
		api.TFixed64: "fixed64", api.TFixed32: "fixed32", api.TBool: "bool", api.TString: "string", api.TBytes: "bytes",
		api.TUint32: "uint32", api.TSfixed32: "sfixed32", api.TSfixed64: "sfixed64", api.TSint32: "sint32", api.TSint64: "sint64",
	} {
		if kinds.Name(number) != name || kinds.Type(name) != number {
			t.Errorf("%d is %q, and %q is %d", number, kinds.Name(number), name, kinds.Type(name))
		}
	}
	if kinds.Class(api.TMsg) != 9 || kinds.Domain(api.TMsg) != api.KMsg || kinds.Name(api.TMsg) != "" {
		t.Errorf("a message: %d, %d, %q", kinds.Class(api.TMsg), kinds.Domain(api.TMsg), kinds.Name(api.TMsg))
	}
	if kinds.Class(api.TEnum) != 1 || kinds.Domain(api.TEnum) != api.KInt || kinds.Name(api.TEnum) != "" {
		t.Errorf("an enum: %d, %d, %q", kinds.Class(api.TEnum), kinds.Domain(api.TEnum), kinds.Name(api.TEnum))
	}
}

// P17.1: numbers that are no types.
func TestNoTypes(t *testing.T) {
	for _, n := range none() {
		if kinds.Class(n) != 0 || kinds.Wire(n) != -1 || kinds.Name(n) != "" || kinds.Domain(n) != 0 {
			t.Errorf("%d: %d, %d, %q, %d", n, kinds.Class(n), kinds.Wire(n), kinds.Name(n), kinds.Domain(n))
		}
	}
	for n := range 1000 {
		if isType := slices.Contains(types(), n); isType != (kinds.Class(n) != 0) {
			t.Errorf("%d has the class %d", n, kinds.Class(n))
		}
	}
}

// P17.1: the type of each name, and of nothing else.
func TestNames(t *testing.T) {
	for _, r := range writtenRows() {
		if r.name == "" {
			continue
		}
		if got := kinds.Type(r.name); got != r.number {
			t.Errorf("%s is %d", r.name, got)
		}
		for _, other := range []string{
			" " + r.name, r.name + " ", r.name + "\x00", "." + r.name, r.name + ".", r.name + "s", r.name[1:], r.name[:len(r.name)-1],
			strings.ToUpper(r.name), strings.ToUpper(r.name[:1]) + r.name[1:], r.name + r.name, "\xff" + r.name,
		} {
			if i := slices.IndexFunc(writtenRows(), func(r row) bool { return r.name == other }); i >= 0 {
				continue
			}
			if got := kinds.Type(other); got != 0 {
				t.Errorf("%q is %d", other, got)
			}
		}
	}
	for _, name := range []string{"", "-", "int", "uint", "enum", "message", "group", "map", "int16", "int8", "float32", "float64", "sint", "fixed", "ufixed32", "Message", "5", "0", "TInt32", ".", "a.int32"} {
		if got := kinds.Type(name); got != 0 {
			t.Errorf("%q is %d", name, got)
		}
	}
}

// P17.1: names and types belong together.
func TestNamesOfTypes(t *testing.T) {
	count := 0
	for n := -100; n < 1000; n++ {
		if name := kinds.Name(n); name != "" {
			count++
			if kinds.Type(name) != n {
				t.Errorf("%d is %s, which is %d", n, name, kinds.Type(name))
			}
		}
	}
	if count != 15 {
		t.Errorf("%d types have names", count)
	}
}

// P17.3: keys are integers other than enums, and strings.
func TestKeys(t *testing.T) {
	want := []int{5, 3, 13, 4, 8, 17, 18, 7, 15, 6, 16, 9}
	for _, n := range append(none(), types()...) {
		if got := kinds.Key(n); got != slices.Contains(want, n) {
			t.Errorf("Key of %d is %t", n, got)
		}
	}
}

// P17.3: all types are packed but string, bytes and messages.
func TestPacks(t *testing.T) {
	for _, n := range none() {
		if kinds.Packs(n) {
			t.Errorf("%d is packed", n)
		}
	}
	for _, n := range types() {
		if got := kinds.Packs(n); got != (n != 9 && n != 12 && n != 11) {
			t.Errorf("Packs of %d is %t", n, got)
		}
	}
}
