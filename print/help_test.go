package print_test

import (
	"fmt"
	"math/rand"
	"reflect"
	"strings"
	"testing"

	"signetry/api"
	"signetry/print"
	"signetry/tree"
)

// head is what each file begins with.
const head = `syntax="proto3";`

// told is a tree as a text that can be compared: nil and empty lists look the
// same in it.
func told(t api.Tree) string {
	return fmt.Sprintf("%+v", t)
}

// accepts checks that a tree is valid, that its canonical text is the one of the
// second printer, that it is parsed as that tree, and stays as it is. It returns
// the text.
func accepts(t *testing.T, what string, of api.Tree) string {
	t.Helper()
	s, e := print.Text(of)
	if check := print.Check(of); e != api.OK || check != api.OK {
		t.Errorf("%s: Check %d, Text %d of %.300s", what, check, e, told(of))
		return s
	}
	if want := second(of); s != want {
		t.Errorf("%s: %s\nwant\n%s", what, s, want)
	}
	if again, _, e := tree.Parse(s); e != api.OK || !tree.Same(again, of) {
		t.Errorf("%s: %d, parsed as %s\nnot as\n%s", what, e, told(again), told(of))
	}
	if tidy, at, e := print.Tidy(s); tidy != s || at != 0 || e != api.OK {
		t.Errorf("%s: %d, %d, became %s\nfrom\n%s", what, at, e, tidy, s)
	}
	return s
}

// refuses checks that a tree has this error, and no text.
func refuses(t *testing.T, what string, of api.Tree, want api.Errno) {
	t.Helper()
	s, e := print.Text(of)
	if check := print.Check(of); e != want || check != want || s != "" {
		t.Errorf("%s: Check %d, Text %d, want %d: %.200q", what, check, e, want, s)
	}
}

// valid checks whether a tree is valid: whether it is accepted, or has ErrArg.
func valid(t *testing.T, what string, of api.Tree, want bool) {
	t.Helper()
	if want {
		accepts(t, what, of)
	} else {
		refuses(t, what, of, api.ErrArg)
	}
}

// tidies checks that a text has this canonical text.
func tidies(t *testing.T, s, want string) {
	t.Helper()
	if got, at, e := print.Tidy(s); got != want || at != 0 || e != api.OK {
		t.Errorf("Tidy(%.300q): %d, %d\n%s\nwant\n%s", s, at, e, got, want)
	}
}

// fails checks that a text has this error, there, and no canonical text.
func fails(t *testing.T, s string, wantAt int, want api.Errno) {
	t.Helper()
	if got, at, e := print.Tidy(s); got != "" || at != wantAt || e != want {
		t.Errorf("Tidy(%.300q): %d, %d, want %d, %d\n%.200s", s, at, e, wantAt, want, got)
	}
}

// lines is a text of these lines, below the one that each file begins with.
func lines(l ...string) string {
	return "syntax = \"proto3\";\n" + strings.Join(l, "\n") + "\n"
}

// where is a place for a message, or an enum, in a tree.
type where[T any] struct {
	name string
	put  func(T) api.Tree
}

// messagePlaces is all kinds of them, for messages without messages in them.
func messagePlaces() (l []where[api.MsgDef]) {
	for deep := range api.MaxDeep {
		l = append(l, where[api.MsgDef]{fmt.Sprintf("message %d deep", deep+1), func(m api.MsgDef) api.Tree { return nested(deep, m) }})
	}
	other := api.MsgDef{Name: "Other"}
	return append(l,
		where[api.MsgDef]{"message behind others", func(m api.MsgDef) api.Tree { return api.Tree{Msgs: []api.MsgDef{other, other, m}} }},
		where[api.MsgDef]{"message ahead of others", func(m api.MsgDef) api.Tree { return api.Tree{Msgs: []api.MsgDef{m, other}} }},
		where[api.MsgDef]{"message between others in another", func(m api.MsgDef) api.Tree {
			return api.Tree{Msgs: []api.MsgDef{other, {Name: "M", Msgs: []api.MsgDef{other, m, other}}, other}}
		}},
	)
}

// enumPlaces is all kinds of them.
func enumPlaces() (l []where[api.EnumDef]) {
	other := api.EnumDef{Name: "Other"}
	l = append(l,
		where[api.EnumDef]{"enum", func(n api.EnumDef) api.Tree { return api.Tree{Enums: []api.EnumDef{n}} }},
		where[api.EnumDef]{"enum between others", func(n api.EnumDef) api.Tree { return api.Tree{Enums: []api.EnumDef{other, n, other}} }},
	)
	for _, place := range messagePlaces() {
		l = append(l, where[api.EnumDef]{"enum in " + place.name, func(n api.EnumDef) api.Tree {
			return place.put(api.MsgDef{Name: "M", Enums: []api.EnumDef{other, n}})
		}})
	}
	return l
}

// nested is a tree of a message that has that many others around it.
func nested(others int, m api.MsgDef) api.Tree {
	for range others {
		m = api.MsgDef{Name: "Around", Msgs: []api.MsgDef{m}}
	}
	return api.Tree{Msgs: []api.MsgDef{m}}
}

// oneField is a message with one field, in the last of so many oneofs.
func oneField(f api.FieldDef, oneofs int) api.MsgDef {
	m := api.MsgDef{Name: "M", Fields: []api.FieldDef{f}}
	for i := range oneofs {
		m.Oneofs = append(m.Oneofs, api.Text{S: fmt.Sprint("o", i)})
	}
	return m
}

// fieldKinds is a field of each kind, with a type that begins nothing else.
func fieldKinds() map[string]api.FieldDef {
	return map[string]api.FieldDef{
		"one":      {Name: "a", Type: "T", Card: api.One, Num: 1, Oneof: -1},
		"optional": {Name: "a", Type: "T", Card: api.Opt, Num: 1, Oneof: -1},
		"repeated": {Name: "a", Type: "T", Card: api.Rep, Num: 1, Oneof: -1},
		"map":      {Name: "a", Type: "T", Key: "K", Card: api.Map, Num: 1, Oneof: -1},
		"oneof":    {Name: "a", Type: "T", Card: api.Opt, Num: 1, Oneof: 0},
	}
}

// pick is one of some.
func pick[T any](r *rand.Rand, some []T) T {
	return some[r.Intn(len(some))]
}

// keywords is all identifiers to which the grammar gives a meaning somewhere.
func keywords() []string {
	return strings.Fields("syntax package import public message enum service oneof reserved optional repeated map " +
		"option extensions extend group to max json_name rpc returns")
}

// eachPart calls f for all parts of a value, outermost first, with what they are
// called.
func eachPart(v reflect.Value, name string, f func(name string, v reflect.Value)) {
	f(name, v)
	switch v.Kind() {
	case reflect.Struct:
		for i := range v.NumField() {
			eachPart(v.Field(i), name+"."+v.Type().Field(i).Name, f)
		}
	case reflect.Slice:
		for i := range v.Len() {
			eachPart(v.Index(i), fmt.Sprintf("%s[%d]", name, i), f)
		}
	}
}

// counted is that many elements of a list.
func counted[T any](count int, element func(i int) T) (l []T) {
	for i := range count {
		l = append(l, element(i))
	}
	return l
}
