package dec_test

import (
	"encoding/hex"
	"fmt"
	"math/big"
	"math/rand"
	"reflect"
	"slices"
	"strings"
	"testing"

	"signetry/api"
	"signetry/build"
	"signetry/dec"
	"signetry/enc"
	"signetry/value"
	"signetry/wire"
)

// head is what each file begins with.
const head = `syntax="proto3";`

// built is the set of files that are written as lines, "a: message M{}".
func built(t testing.TB, lines ...string) api.Set {
	t.Helper()
	var l []api.Source
	var roots []string
	for _, line := range lines {
		path, rest, _ := strings.Cut(line, ":")
		l, roots = append(l, api.Source{Path: path, Text: head + rest}), append(roots, path)
	}
	s, at, e := build.Build(l, roots)
	if e != api.OK {
		t.Fatalf("%d at %v of %.1000q", e, at, lines)
	}
	return s
}

// fieldOf is a field of a message of a set.
func fieldOf(t testing.TB, s api.Set, name string, num int) api.Field {
	t.Helper()
	m, _ := build.Msg(s, name)
	f, found := build.Field(m, num)
	if !found {
		t.Fatalf("%s has no field %d", name, num)
	}
	return f
}

// whole is an integer that is written in decimal; -0 is 0 with a sign.
func whole(s string) api.Val {
	n, isNumber := new(big.Int).SetString(strings.TrimPrefix(s, "-"), 10)
	if !isNumber || !n.IsUint64() {
		panic(s)
	}
	return api.Val{Kind: api.KInt, Neg: s[0] == '-', Mag: n.Uint64()}
}

func num(n int) api.Val       { return whole(fmt.Sprint(n)) }
func f32(bits uint64) api.Val { return api.Val{Kind: api.KF32, Mag: bits} }
func f64(bits uint64) api.Val { return api.Val{Kind: api.KF64, Mag: bits} }
func str(s string) api.Val    { return api.Val{Kind: api.KBytes, B: []byte(s)} }

// msg is a message with slots.
func msg(name string, slots ...api.Slot) api.Val {
	return api.Val{Kind: api.KMsg, Name: name, F: slots}
}

func slot(num int, l ...api.Val) api.Slot { return api.Slot{Num: num, L: l} }

// entry is the entry of a map.
func entry(key, val api.Val) api.Val { return msg("", slot(1, key), slot(2, val)) }

// times is as many values, all the same.
func times(count int, v api.Val) (l []api.Val) {
	for range count {
		l = append(l, v)
	}
	return l
}

// nest is a message that is so deep: each but the last one has the next one in the
// slot with a number.
func nest(deep int, name string, num int) api.Val {
	v := msg(name)
	for range deep - 1 {
		v = msg(name, slot(num, v))
	}
	return v
}

// told is a value as a text.
func told(v api.Val) string {
	s := fmt.Sprint("kind ", v.Kind)
	if v.Kind >= 1 && v.Kind <= 5 {
		s = []string{"int", "f32", "f64", "bytes", "message"}[v.Kind-1]
	}
	if v.Neg {
		s += " -"
	}
	if v.Mag != 0 || v.Kind < 4 {
		s += fmt.Sprint(" ", v.Mag)
	}
	if len(v.B) > 0 || v.Kind == 4 {
		s += fmt.Sprintf(" %.100q", v.B)
	}
	if v.Name != "" {
		s += " " + v.Name
	}
	for _, x := range v.F {
		s += fmt.Sprintf(" %d%s", x.Num, toldAll(x.L))
	}
	return s
}

func toldAll(l []api.Val) string {
	var all []string
	for _, v := range l {
		all = append(all, told(v))
	}
	return "{" + strings.Join(all, ", ") + "}"
}

// raw is bytes that are written in hexadecimal, with or without blanks.
func raw(texts ...string) []byte {
	b, err := hex.DecodeString(strings.ReplaceAll(strings.Join(texts, ""), " ", ""))
	if err != nil {
		panic(err)
	}
	return b
}

// said is the result of a call as a text: the value, and the bytes of the records that
// are unknown.
func said(m api.Mess) string {
	s := told(m.V)
	for _, r := range m.Unknown {
		s += fmt.Sprintf(" + %x", r.Raw)
	}
	return s
}

// reads checks that bytes are those of a value, with unknown records.
func reads(t *testing.T, s api.Set, name string, b []byte, want api.Val, unknown ...[]byte) {
	t.Helper()
	m, e := dec.Decode(s, name, b)
	if e != api.OK {
		t.Errorf("%d of % .200x, want %.1000s", e, b, told(want))
		return
	}
	isMess(t, b, m, messOf(t, want, unknown...))
}

// isMess checks that what was read of bytes is something, by the way of this project
// and by texts.
func isMess(t *testing.T, b []byte, got, want api.Mess) {
	t.Helper()
	if said(got) != said(want) || !value.Same(got.V, want.V) || !slices.EqualFunc(got.Unknown, want.Unknown, wire.Same) {
		t.Errorf("%.1000s, want %.1000s, of % .200x", said(got), said(want), b)
	}
}

// messOf is a value with unknown records, which are written as bytes.
func messOf(t *testing.T, v api.Val, unknown ...[]byte) api.Mess {
	t.Helper()
	m := api.Mess{V: v}
	for _, b := range unknown {
		r, n, e := wire.Next(b)
		if e != api.OK || n != len(b) {
			t.Fatalf("%d, %d bytes of % x", e, n, b)
		}
		m.Unknown = append(m.Unknown, r)
	}
	return m
}

// refuses checks that bytes have an error, and nothing besides.
func refuses(t *testing.T, s api.Set, name string, b []byte, want api.Errno) {
	t.Helper()
	if m, e := dec.Decode(s, name, b); e != want || !reflect.DeepEqual(m, api.Mess{}) {
		t.Errorf("%d, want %d, and %.1000s of % .200x", e, want, said(m), b)
	}
}

// must is what is read of bytes without an error.
func must(t *testing.T, s api.Set, name string, b []byte) api.Mess {
	t.Helper()
	m, e := dec.Decode(s, name, b)
	if e != api.OK {
		t.Fatalf("%d of % .200x", e, b)
	}
	return m
}

// encoded is the bytes of a value, in an order.
func encoded(t *testing.T, s api.Set, name string, v api.Val, order []int) []byte {
	t.Helper()
	b, e := enc.Encode(s, name, v, order)
	if e != api.OK {
		t.Fatalf("%d of %.1000s", e, told(v))
	}
	return b
}

// record is a record of bytes.
func record(num int, pieces ...[]byte) []byte {
	b := slices.Concat(pieces...)
	return slices.Concat(wire.Var(wire.Var(nil, uint64(num)<<3|2), uint64(len(b))), b)
}

// types is all types, by what they are called in files; those of messages and of
// enums are N and E.
var types = map[int]string{
	api.TDouble: "double", api.TFloat: "float", api.TInt64: "int64", api.TUint64: "uint64", api.TInt32: "int32", api.TFixed64: "fixed64",
	api.TFixed32: "fixed32", api.TBool: "bool", api.TString: "string", api.TMsg: "N", api.TBytes: "bytes", api.TUint32: "uint32", api.TEnum: "E",
	api.TSfixed32: "sfixed32", api.TSfixed64: "sfixed64", api.TSint32: "sint32", api.TSint64: "sint64",
}

// keyTypes is the types that keys may have.
var keyTypes = []int{
	api.TInt32, api.TInt64, api.TUint32, api.TUint64, api.TBool, api.TSint32, api.TSint64,
	api.TFixed32, api.TSfixed32, api.TFixed64, api.TSfixed64, api.TString,
}

// plain is a field of a type, as one of a message of typed.
func plain(typ, card int) api.Field {
	f := api.Field{Name: "f", Json: "f", Num: 1, Type: typ, Card: card, Oneof: -1}
	switch typ {
	case api.TMsg:
		f.Ref = "N"
	case api.TEnum:
		f.Ref = "E"
	}
	return f
}

// mapOf is a map from a type to another one.
func mapOf(key, typ int) api.Field {
	f := plain(typ, api.Map)
	f.Key = key
	return f
}

// typed is a set with a message for each card, M1 to M4 without those that fields of
// the type cannot have: with the field f, of 1, of that type, and for M4 of a map with
// keys of another one. O has it in a oneof.
func typed(t testing.TB, typ, key int) api.Set {
	t.Helper()
	text := "a:message N{int32 a=1;N n=2;}enum E{Z=0;A=5;}message O{oneof o{" + types[typ] + " f=1;N g=2;}}"
	for card, ahead := range map[int]string{api.One: "", api.Opt: "optional ", api.Rep: "repeated "} {
		if typ != api.TMsg || card != api.One {
			text += fmt.Sprintf("message M%d{%s%s f=1;}", card, ahead, types[typ])
		}
	}
	if key != 0 {
		text += fmt.Sprintf("message M%d{map<%s,%s>f=1;}", api.Map, types[key], types[typ])
	}
	return built(t, text)
}

// pick is one of some.
func pick[T any](r *rand.Rand, some []T) T {
	return some[r.Intn(len(some))]
}
