package enc_test

import (
	"bytes"
	"encoding/hex"
	"fmt"
	"math/big"
	"math/rand"
	"strings"
	"testing"

	"signetry/api"
	"signetry/build"
	"signetry/enc"
)

// head is what each file begins with.
const head = `syntax="proto3";`

// built is the set of files that are written as lines, "a: message M{}".
func built(t testing.TB, lines ...string) api.Set {
	t.Helper()
	var l []api.Source
	var roots []string
	for _, line := range lines {
		path, rest, _ := strings.Cut(line, ":")
		l, roots = append(l, api.Source{Path: path, Text: head + rest}), append(roots, path)
	}
	s, at, e := build.Build(l, roots)
	if e != api.OK {
		t.Fatalf("%d at %v of %.1000q", e, at, lines)
	}
	return s
}

// fieldOf is a field of a message of a set.
func fieldOf(t testing.TB, s api.Set, name string, num int) api.Field {
	t.Helper()
	m, _ := build.Msg(s, name)
	f, found := build.Field(m, num)
	if !found {
		t.Fatalf("%s has no field %d", name, num)
	}
	return f
}

// whole is an integer that is written in decimal; -0 is 0 with a sign.
func whole(s string) api.Val {
	n, isNumber := new(big.Int).SetString(strings.TrimPrefix(s, "-"), 10)
	if !isNumber || !n.IsUint64() {
		panic(s)
	}
	return api.Val{Kind: api.KInt, Neg: s[0] == '-', Mag: n.Uint64()}
}

func num(n int) api.Val       { return whole(fmt.Sprint(n)) }
func f32(bits uint64) api.Val { return api.Val{Kind: api.KF32, Mag: bits} }
func f64(bits uint64) api.Val { return api.Val{Kind: api.KF64, Mag: bits} }
func str(s string) api.Val    { return api.Val{Kind: api.KBytes, B: []byte(s)} }

// msg is a message with slots.
func msg(name string, slots ...api.Slot) api.Val {
	return api.Val{Kind: api.KMsg, Name: name, F: slots}
}

func slot(num int, l ...api.Val) api.Slot { return api.Slot{Num: num, L: l} }

// entry is the entry of a map.
func entry(key, val api.Val) api.Val { return msg("", slot(1, key), slot(2, val)) }

// times is as many values, all the same.
func times(count int, v api.Val) (l []api.Val) {
	for range count {
		l = append(l, v)
	}
	return l
}

// nest is a message that is so deep: each but the last one has the next one in the
// slot with a number.
func nest(deep int, name string, num int) api.Val {
	v := msg(name)
	for range deep - 1 {
		v = msg(name, slot(num, v))
	}
	return v
}

// told is a value as a text.
func told(v api.Val) string {
	s := fmt.Sprint("kind ", v.Kind)
	if v.Kind >= 1 && v.Kind <= 5 {
		s = []string{"int", "f32", "f64", "bytes", "message"}[v.Kind-1]
	}
	if v.Neg {
		s += " -"
	}
	if v.Mag != 0 || v.Kind < 4 {
		s += fmt.Sprint(" ", v.Mag)
	}
	if len(v.B) > 0 || v.Kind == 4 {
		s += fmt.Sprintf(" %.100q", v.B)
	}
	if v.Name != "" {
		s += " " + v.Name
	}
	for _, x := range v.F {
		s += fmt.Sprintf(" %d%s", x.Num, toldAll(x.L))
	}
	return s
}

func toldAll(l []api.Val) string {
	var all []string
	for _, v := range l {
		all = append(all, told(v))
	}
	return "{" + strings.Join(all, ", ") + "}"
}

// raw is bytes that are written in hexadecimal, with or without blanks.
func raw(texts ...string) []byte {
	b, err := hex.DecodeString(strings.ReplaceAll(strings.Join(texts, ""), " ", ""))
	if err != nil {
		panic(err)
	}
	return b
}

// is checks that bytes are other ones.
func is(t *testing.T, what string, got, want []byte) {
	t.Helper()
	if !bytes.Equal(got, want) {
		t.Errorf("% .1000x, want % .1000x, of %.1000s", got, want, what)
	}
}

// writes checks the bytes of a value, in an order.
func writes(t *testing.T, s api.Set, name string, v api.Val, order []int, want []byte) {
	t.Helper()
	b, e := enc.Encode(s, name, v, order)
	if e != api.OK {
		t.Errorf("%d of %.1000s in the order %.100v", e, told(v), order)
		return
	}
	if !bytes.Equal(b, want) {
		is(t, told(v), b, want)
	}
}

// refuses checks that a value has an error, and nothing besides.
func refuses(t *testing.T, s api.Set, name string, v api.Val, order []int, want api.Errno) {
	t.Helper()
	if b, e := enc.Encode(s, name, v, order); e != want || len(b) > 0 {
		t.Errorf("%d and %d bytes, want %d, of %.1000s in the order %.100v", e, len(b), want, told(v), order)
	}
}

// lists checks the records of a field with a list.
func lists(t *testing.T, s api.Set, f api.Field, want []byte, l ...api.Val) {
	t.Helper()
	b, e := enc.Records(s, f, l)
	if e != api.OK {
		t.Errorf("%d of %.1000s by %+v", e, toldAll(l), f)
		return
	}
	if !bytes.Equal(b, want) {
		is(t, toldAll(l), b, want)
	}
}

// denies checks that a field with a list has an error, and nothing besides.
func denies(t *testing.T, s api.Set, f api.Field, want api.Errno, l ...api.Val) {
	t.Helper()
	if b, e := enc.Records(s, f, l); e != want || len(b) > 0 {
		t.Errorf("%d and %d bytes, want %d, of %.1000s by %+v", e, len(b), want, toldAll(l), f)
	}
}

// must is the bytes of a value that has some.
func must(t *testing.T, s api.Set, name string, v api.Val, order []int) []byte {
	t.Helper()
	b, e := enc.Encode(s, name, v, order)
	if e != api.OK {
		t.Fatalf("%d of %.1000s in the order %v", e, told(v), order)
	}
	return b
}

// types is all types, by what they are called in files; those of messages and of
// enums are N and E.
var types = map[int]string{
	api.TDouble: "double", api.TFloat: "float", api.TInt64: "int64", api.TUint64: "uint64", api.TInt32: "int32", api.TFixed64: "fixed64",
	api.TFixed32: "fixed32", api.TBool: "bool", api.TString: "string", api.TMsg: "N", api.TBytes: "bytes", api.TUint32: "uint32", api.TEnum: "E",
	api.TSfixed32: "sfixed32", api.TSfixed64: "sfixed64", api.TSint32: "sint32", api.TSint64: "sint64",
}

// keyTypes is the types that keys may have.
var keyTypes = []int{
	api.TInt32, api.TInt64, api.TUint32, api.TUint64, api.TBool, api.TSint32, api.TSint64,
	api.TFixed32, api.TSfixed32, api.TFixed64, api.TSfixed64, api.TString,
}

// plain is a field of a type, as one of a message of typed.
func plain(typ, card int) api.Field {
	f := api.Field{Name: "f", Json: "f", Num: 1, Type: typ, Card: card, Oneof: -1}
	switch typ {
	case api.TMsg:
		f.Ref = "N"
	case api.TEnum:
		f.Ref = "E"
	}
	return f
}

// mapOf is a map from a type to another one.
func mapOf(key, typ int) api.Field {
	f := plain(typ, api.Map)
	f.Key = key
	return f
}

// typed is a set with a message for each card, M1 to M4 without those that fields of
// the type cannot have: with the field f, of 1, of that type, and for M4 of a map with
// keys of another one. O has it in a oneof.
func typed(t testing.TB, typ, key int) api.Set {
	t.Helper()
	text := "a:message N{int32 a=1;N n=2;}enum E{Z=0;A=5;}message O{oneof o{" + types[typ] + " f=1;N g=2;}}"
	for card, ahead := range map[int]string{api.One: "", api.Opt: "optional ", api.Rep: "repeated "} {
		if typ != api.TMsg || card != api.One {
			text += fmt.Sprintf("message M%d{%s%s f=1;}", card, ahead, types[typ])
		}
	}
	if key != 0 {
		text += fmt.Sprintf("message M%d{map<%s,%s>f=1;}", api.Map, types[key], types[typ])
	}
	return built(t, text)
}

// says checks what both Records and Encode say of a list: of a field, and of the
// message of typed that has it.
func says(t *testing.T, s api.Set, f api.Field, want []byte, l ...api.Val) {
	t.Helper()
	lists(t, s, f, want, l...)
	name := fmt.Sprint("M", f.Card)
	if _, found := build.Msg(s, name); !found {
		t.Errorf("there is no %s", name)
	}
	v := msg(name, slot(1, l...))
	writes(t, s, name, v, nil, want)
	writes(t, s, name, v, []int{1}, want)
}

// pick is one of some.
func pick[T any](r *rand.Rand, some []T) T {
	return some[r.Intn(len(some))]
}
