package print_test

import (
	"fmt"
	"strings"
	"testing"

	"signetry/api"
	"signetry/print"
	"signetry/tree"
)

// list is a list of a tree: how many elements it may have, and a tree in which
// it has a number of them.
type list struct {
	name string
	most int
	of   func(count int) api.Tree
}

// lists is all of them, in all kinds of places.
func lists() []list {
	name := func(i int) api.Text { return api.Text{S: fmt.Sprint("n", i)} }
	span := func(i int) api.Span { return api.Span{Lo: i, Hi: i} }
	enum := func(i int) api.EnumDef { return api.EnumDef{Name: fmt.Sprint("E", i)} }
	message := func(i int) api.MsgDef { return api.MsgDef{Name: fmt.Sprint("M", i)} }
	l := []list{
		{"imports", 16, func(n int) api.Tree {
			return api.Tree{Imports: counted(n, func(i int) api.Import { return api.Import{Path: "a"} })}
		}},
		{"messages", 128, func(n int) api.Tree { return api.Tree{Msgs: counted(n, message)} }},
		{"enums", 128, func(n int) api.Tree { return api.Tree{Enums: counted(n, enum)} }},
		{"services", 64, func(n int) api.Tree {
			return api.Tree{Svcs: counted(n, func(i int) api.SvcDef { return api.SvcDef{Name: "S"} })}
		}},
		{"rpcs", 64, func(n int) api.Tree {
			rpcs := counted(n, func(i int) api.RpcDef { return api.RpcDef{Name: "F", In: "M", Out: "N"} })
			return api.Tree{Svcs: []api.SvcDef{{Name: "S"}, {Name: "S", Rpcs: rpcs}}}
		}},
	}
	for deep := range api.MaxDeep - 1 {
		l = append(l, list{fmt.Sprint("messages ", deep), 128, func(n int) api.Tree {
			return nested(deep, api.MsgDef{Name: "M", Msgs: counted(n, message)})
		}})
	}
	in := func(what string, most int, fill func(m *api.MsgDef, n int)) {
		for _, place := range messagePlaces() {
			l = append(l, list{what + " in " + place.name, most, func(n int) api.Tree {
				m := api.MsgDef{Name: "M", Oneofs: []api.Text{{S: "o"}}}
				fill(&m, n)
				return place.put(m)
			}})
		}
	}
	in("fields", 64, func(m *api.MsgDef, n int) {
		m.Fields = counted(n, func(i int) api.FieldDef {
			return api.FieldDef{Name: "a", Type: "T", Card: api.Opt, Num: i, Oneof: -1}
		})
	})
	in("fields of a oneof", 64, func(m *api.MsgDef, n int) {
		m.Fields = counted(n, func(i int) api.FieldDef {
			return api.FieldDef{Name: "a", Type: "T", Card: api.Opt, Num: i, Oneof: min(i/32, 1) - 1}
		})
	})
	in("oneofs", 16, func(m *api.MsgDef, n int) { m.Oneofs = counted(n, name) })
	in("enums", 128, func(m *api.MsgDef, n int) { m.Enums = counted(n, enum) })
	in("ranges", 64, func(m *api.MsgDef, n int) { m.Ranges = counted(n, span) })
	in("names", 64, func(m *api.MsgDef, n int) { m.Names = counted(n, name) })
	for _, place := range enumPlaces() {
		l = append(l,
			list{"values in " + place.name, 64, func(n int) api.Tree {
				value := func(i int) api.ValueDef { return api.ValueDef{Name: "A", Num: i} }
				return place.put(api.EnumDef{Name: "E", Values: counted(n, value)})
			}},
			list{"ranges in " + place.name, 64, func(n int) api.Tree {
				return place.put(api.EnumDef{Name: "E", Ranges: counted(n, span)})
			}},
			list{"names in " + place.name, 64, func(n int) api.Tree {
				return place.put(api.EnumDef{Name: "E", Names: counted(n, name)})
			}},
		)
	}
	return l
}

// P5.1: each list has at most as many elements as chapter 4 allows.
func TestLists(t *testing.T) {
	for _, l := range lists() {
		for _, n := range []int{0, 1, l.most - 1, l.most} {
			accepts(t, fmt.Sprint(n, " ", l.name), l.of(n))
		}
		for _, n := range []int{l.most + 1, l.most + 2, 2 * l.most, 1000} {
			refuses(t, fmt.Sprint(n, " ", l.name), l.of(n), api.ErrArg)
		}
	}
}

// P5.1: of several scopes each may have as many elements.
func TestListsOfScopes(t *testing.T) {
	for _, l := range lists() {
		one := l.of(l.most)
		both := api.Tree{Msgs: append(one.Msgs, one.Msgs...), Enums: append(one.Enums, one.Enums...), Svcs: append(one.Svcs, one.Svcs...)}
		if len(both.Msgs) <= api.MaxMsgs && len(both.Enums) <= api.MaxMsgs && len(both.Svcs) <= api.MaxValues {
			accepts(t, l.name+" twice", both)
		}
	}
}

// longTree is a valid tree whose canonical text has that many bytes: a json_name
// fills it up.
func longTree(t *testing.T, size int) api.Tree {
	t.Helper()
	of := wholeTree()
	of.Msgs[0].Msgs[1].Fields[3].Json = ""
	rest := size - len(second(of)) - len(` [json_name = ""]`)
	of.Msgs[0].Msgs[1].Fields[3].Json = strings.Repeat("\xff", rest/4) + strings.Repeat("k", rest%4)
	if got := len(second(of)); got != size {
		t.Fatalf("a text of %d bytes, not of %d", got, size)
	}
	return of
}

// P5.1: a canonical text has at most 65536 bytes.
func TestLongTexts(t *testing.T) {
	for _, size := range []int{api.MaxText - 5, api.MaxText - 1, api.MaxText} {
		if s := accepts(t, "a long text", longTree(t, size)); len(s) != size {
			t.Errorf("%d bytes, not %d", len(s), size)
		}
	}
	for _, size := range []int{api.MaxText + 1, api.MaxText + 2, 2 * api.MaxText, 10 * api.MaxText} {
		refuses(t, fmt.Sprint("a text of ", size, " bytes"), longTree(t, size), api.ErrLimit)
	}
}

// filled is a tree whose canonical text ends with what the last line of it is,
// and has that many bytes: what is ahead of it fills it up.
func filled(t *testing.T, size int, last api.Tree) api.Tree {
	t.Helper()
	last.Msgs = append([]api.MsgDef{{Name: "Fill", Fields: []api.FieldDef{{Name: "a", Type: "T", Card: api.One, Num: 1, Oneof: -1, Json: "k"}}}}, last.Msgs...)
	last.Msgs[0].Fields[0].Json = strings.Repeat("k", size-len(second(last))+1)
	if got := len(second(last)); got != size {
		t.Fatalf("a text of %d bytes, not of %d", got, size)
	}
	return last
}

// P5.1: the limit counts each kind of line, also if it is the last one.
func TestLimitOfEachLine(t *testing.T) {
	message := func(m api.MsgDef) api.Tree { m.Name = "M"; return api.Tree{Msgs: []api.MsgDef{m}} }
	for what, of := range map[string]api.Tree{
		"nothing": {}, "message": message(api.MsgDef{}), "message in a message": message(api.MsgDef{Msgs: []api.MsgDef{{Name: "N"}}}),
		"oneof": message(api.MsgDef{Oneofs: []api.Text{{S: "o"}}}), "names": message(api.MsgDef{Names: []api.Text{{S: "o"}}}), "ranges": message(api.MsgDef{Ranges: []api.Span{{Lo: 1, Hi: 2}}}),
		"field": message(api.MsgDef{Fields: []api.FieldDef{fieldKinds()["map"]}}), "enum": {Enums: []api.EnumDef{{Name: "E"}}},
		"value": {Enums: []api.EnumDef{{Name: "E", Values: []api.ValueDef{{Name: "A"}}}}}, "service": {Svcs: []api.SvcDef{{Name: "S"}}},
		"rpc": {Svcs: []api.SvcDef{{Name: "S", Rpcs: []api.RpcDef{{Name: "F", In: "M", Out: "N"}}}}}, "rest": {Package: "p", Imports: []api.Import{{Path: "a"}}},
	} {
		accepts(t, what, filled(t, api.MaxText, of))
		for more := range 40 {
			refuses(t, what, filled(t, api.MaxText+1+more, of), api.ErrLimit)
		}
	}
}

// P5.1: a tree that is too long is ErrArg if anything in it is not valid, even
// the last thing of all.
func TestInvalidBeforeTooLong(t *testing.T) {
	for _, spoil := range []func(of *api.Tree){
		func(of *api.Tree) { of.Package = "." },
		func(of *api.Tree) { of.Imports[1].Path = "" },
		func(of *api.Tree) { of.Msgs[0].Name = "" },
		func(of *api.Tree) { of.Msgs[1].Names[1].S = "" },
		func(of *api.Tree) { of.Msgs[0].Msgs[1].Fields[6].Num = -1 },
		func(of *api.Tree) { of.Enums[1].Values[1].Num = 1 << 32 },
		func(of *api.Tree) { of.Enums[1].Names[1].S = "1" },
		func(of *api.Tree) { of.Svcs[1].Rpcs[1].Out = "" },
		func(of *api.Tree) { of.Svcs = append(of.Svcs, api.SvcDef{}) },
	} {
		of := longTree(t, api.MaxText+1)
		spoil(&of)
		refuses(t, "too long and not valid", of, api.ErrArg)
	}
}

// P5.1: trees that are far too long.
func TestVeryLongTexts(t *testing.T) {
	f := fieldKinds()["one"]
	for _, json := range []string{strings.Repeat("k", 1<<24), strings.Repeat("\x00", 1<<24), strings.Repeat("k", api.MaxText), strings.Repeat("k", api.MaxText+1)} {
		f.Json = json
		refuses(t, "a great json_name", nested(0, oneField(f, 0)), api.ErrLimit)
	}
	f = fieldKinds()["one"]
	full := api.MsgDef{Name: "M", Fields: counted(api.MaxFields, func(int) api.FieldDef { return f })}
	wide := api.MsgDef{Name: "N", Msgs: counted(api.MaxMsgs, func(int) api.MsgDef { return full })}
	refuses(t, "a million fields", api.Tree{Msgs: counted(api.MaxMsgs, func(int) api.MsgDef { return wide })}, api.ErrLimit)
}

// P5.2: a text within its limit whose canonical text is not: ErrLimit, at 0.
func TestTidyTooLong(t *testing.T) {
	for size, e := range map[int]api.Errno{api.MaxText: api.OK, api.MaxText + 1: api.ErrLimit} {
		of := filled(t, size, wholeTree())
		s := plain(api.Tree{Package: of.Package, Imports: of.Imports, Enums: of.Enums, Svcs: of.Svcs, Msgs: of.Msgs[1:]})
		s += "message Fill{T a=1[json_name='" + of.Msgs[0].Fields[0].Json + "'];}"
		parsed, _, e2 := tree.Parse(s)
		if len(s) > api.MaxText || e2 != api.OK {
			t.Fatalf("%d bytes, %d", len(s), e2)
		}
		if want, e2 := print.Text(parsed); e2 != e {
			t.Errorf("%d bytes: %d, want %d", size, e2, e)
		} else if e == api.OK {
			tidies(t, s, want)
		} else {
			fails(t, s, 0, e)
		}
	}
}
