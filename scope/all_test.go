package scope_test

import (
	"slices"
	"strings"
	"testing"

	"signetry/api"
	"signetry/files"
	"signetry/scope"
	"signetry/tree"
)

// P7.1: messages, enums and services, of files with and without a package.
func TestEachKind(t *testing.T) {
	has(t, units("a: message M{}"), "message M a 24")
	has(t, units("a: enum E{Z=0;}"), "enum E a 21")
	has(t, units("a: service S{}"), "service S a 24")
	has(t, units("a: package p;message M{}"), "message p.M a 34")
	has(t, units("a: package p;enum E{Z=0;}"), "enum p.E a 31")
	has(t, units("a: package p;service S{}"), "service p.S a 34")
	has(t, units("a: package p.q.r;service S{}enum E{}message M{}"),
		"enum p.q.r.E a 46", "message p.q.r.M a 57", "service p.q.r.S a 38")
	has(t, units("a: message message{}enum enum{}service service{}"),
		"enum enum a 38", "message message a 24", "service service a 52")
}

// P7.1: nothing but these is a symbol: no field, oneof, value, method, reserved
// name, package or import.
func TestNoOtherSymbols(t *testing.T) {
	l := units(
		`a: package p;import"b";message M{int32 a=1;oneof o{int32 b=2;}map<int32,M>c=3;reserved"d";reserved 4;}enum E{Z=0;reserved"Y";}service S{rpc F(M)returns(M);rpc G(M)returns(M){}}`,
		"b: package q;")
	has(t, l, "enum p.E a 120", "message p.M a 44", "service p.S a 147")
	for _, name := range []string{"p", "q", "a", "o", "Z", "F", "d", "M.a", "M.o", "M.b", "M.d", "E.Z", "E.Y", "S.F", "b", "int32"} {
		fails(t, l, "a", "p", name, api.ErrName)
		fails(t, l, "a", "p.M", name, api.ErrName)
	}
	has(t, units("a: "))
	has(t, units("a: package p;", `b: import"a";;;`))
}

// P7.1: messages and enums in messages, in all that are around them.
func TestInnerSymbols(t *testing.T) {
	has(t, units("a: message M{enum E{}message N{message O{}enum F{}}}enum G{}"),
		"enum G a 70", "message M a 24", "enum M.E a 31", "message M.N a 42", "enum M.N.F a 60", "message M.N.O a 52")
	has(t, units("a: package p.q;message M{message M{message M{}enum E{}}}message N{enum M{}}"),
		"message p.q.M a 36", "message p.q.M.M a 46", "enum p.q.M.M.E a 64", "message p.q.M.M.M a 56", "message p.q.N a 77", "enum p.q.N.M a 84")
}

// P7.1: as deep as messages may be, with enums in the deepest one.
func TestDeepSymbols(t *testing.T) {
	parts := strings.Fields("A B C D E F G H")
	l := units("a: package p;" + nested("enum I{Z=0;}", parts...))
	var want []string
	for i := range parts {
		want = append(want, "p."+strings.Join(parts[:i+1], "."))
	}
	names(t, l, strings.Join(want, " ")+" p.A.B.C.D.E.F.G.H.I")
	finds(t, l, "a", "", "p.A.B.C.D.E.F.G.H.I", "p.A.B.C.D.E.F.G.H.I")
	for i, full := range want {
		finds(t, l, "a", want[7], parts[i], full)
		finds(t, l, "a", want[7], strings.Join(parts[i:], "."), want[7])
	}
}

// P7.1: names that are longer than a file may use are names of symbols, too.
func TestLongNames(t *testing.T) {
	long := strings.Repeat("x", api.MaxIdent)
	pack := strings.Join([]string{long, long, long, long[:29]}, ".")
	parts := slices.Repeat([]string{long}, api.MaxDeep)
	l := units("a: package " + pack + ";" + nested("enum "+long+"{}", parts...))
	all := scope.All(l)
	full := pack + strings.Repeat("."+long, 9)
	if len(pack) != api.MaxFull || len(all) != 9 || all[8].Name != full || all[8].Kind != api.SymEnum {
		t.Fatal(len(pack), all)
	}
	for i := range all {
		finds(t, l, "a", full, "."+all[i].Name, all[i].Name)
		finds(t, l, "a", full[:len(pack)+33*i], long, all[i].Name)
	}
	finds(t, l, "a", full+"."+long+".y", long, full)
}

// P7.1: each file has its own package; a file without one has none, even if it
// imports one that has.
func TestPackages(t *testing.T) {
	l := units(
		"a: package p;message M{}",
		`b: import"a";message M{}message p{message M{}}`,
		"c: package p.q;message M{}",
		"d: message M{}package p;",
		"e: package p.M;message N{}")
	has(t, l,
		"message M b 34", "message p b 45", "message p.M a 34", "message p.M b 55", "message p.M d 24",
		"message p.M.N e 36", "message p.q.M c 36")
}

// P7.1: At is where the name is declared, whatever is around it.
func TestOffsets(t *testing.T) {
	has(t, units("a: // message M {\n/* enum E{} */ message\n\t M\n{ // }\nenum /**/E{}}service\r\nS{}package\tp ;"),
		"message p.M a 56", "enum p.M.E a 74", "service p.S a 87")
}

// P7.1: by full names, bytewise; a name is ahead of those that begin with it.
func TestOrderOfNames(t *testing.T) {
	names(t, units("a: message b{}message _{}message ab{}message a_{message Z{}message a{}}message a{message b{}message B{}message _{}}message aB{}message a0{}message B{}message A{}enum a1{}service Z{}"),
		"A B Z _ a a.B a._ a.b a0 a1 aB a_ a_.Z a_.a ab b")
	names(t, units("a: package p0;message A{}", "b: package p;message Z{}message p{}", "c: package p.a;message A{}", "d: message p{}message p1{}"),
		"p p.Z p.a.A p.p p0.A p1")
}

// P7.1: symbols with the same name are there by the paths of their files, and in
// one file by where they are, of whichever kind they are.
func TestOrderOfSameNames(t *testing.T) {
	has(t, units("a: service M{}message M{}enum M{}message M{}"), "service M a 24", "message M a 35", "enum M a 43", "message M a 54")
	has(t, units("a: message M{enum N{}message N{}}message M{message N{}enum N{}}"),
		"message M a 24", "message M a 54", "enum M.N a 31", "message M.N a 42", "message M.N a 64", "enum M.N a 72")
	has(t, units("-: ;;;;enum M{}message M{}", ".: service M{}", "/: message M{}", "0: enum M{}", "A: ;message M{}", "_: message M{}", "a: enum M{}", "a/: message M{}"),
		"enum M - 25", "message M - 36", "service M . 24", "message M / 24", "enum M 0 21", "message M A 25", "message M _ 24", "enum M a 21", "message M a/ 24")
	has(t, units("a: package p;message M{message N{}}", "b: message p{message M{enum N{}}}", "c: package p.M;service N{}", "d: package p;enum M{}"),
		"message p b 24", "message p.M a 34", "message p.M b 34", "enum p.M d 31", "message p.M.N a 44", "enum p.M.N b 41", "service p.M.N c 36")
}

// P7.1: offsets are those of the trees, which may be any; symbols that are equal
// in all that orders them are in the order of the tree.
func TestStrangeOffsets(t *testing.T) {
	l := units("a: message M{}message M{}enum M{}service M{}")
	l[0].Tree.Msgs[0].At, l[0].Tree.Msgs[1].At = 1<<63-1, -1<<63
	l[0].Tree.Enums[0].At, l[0].Tree.Svcs[0].At = -7, 0
	has(t, l, "message M a -9223372036854775808", "enum M a -7", "service M a 0", "message M a 9223372036854775807")

	l = units("a: service M{}enum M{}message M{}message N{enum O{}}message N{message O{}}", "b: enum M{}")
	for i := range l {
		l[i].Tree = tree.Bare(l[i].Tree)
	}
	has(t, l, "message M a 0", "enum M a 0", "service M a 0", "enum M b 0", "message N a 0", "message N a 0", "enum N.O a 0", "message N.O a 0")
	finds(t, l, "a", "", "M", "M")
	finds(t, l, "a", "N", "O", "N.O")
}

// P7.1, P7.2: many symbols that are equal in all that orders them stay in the
// order of the tree, and the first one of them is found.
func TestManyEqualSymbols(t *testing.T) {
	var of api.Tree
	some := strings.Fields("N M O M L N")
	for i := range 60 {
		of.Msgs = append(of.Msgs, api.MsgDef{Name: some[i%6]})
		of.Enums = append(of.Enums, api.EnumDef{Name: some[(i+1)%6]})
		of.Svcs = append(of.Svcs, api.SvcDef{Name: some[(i+2)%6]})
	}
	l := []api.Unit{{Path: "a", Tree: of}}
	var want []string
	for _, name := range []string{"L", "M", "N", "O"} {
		count := 10 * (len(strings.Split(strings.Join(some, ""), name)) - 1)
		for _, kind := range []string{"message ", "enum ", "service "} {
			want = append(want, slices.Repeat([]string{kind + name + " a 0"}, count)...)
		}
		finds(t, l, "a", "", name, name)
	}
	has(t, l, want...)

	of = api.Tree{}
	for i := range 40 {
		inner := api.MsgDef{Name: "P", Enums: []api.EnumDef{{Name: "N"}}}
		if i > 0 {
			inner.Msgs = []api.MsgDef{{Name: "N"}}
		}
		of.Msgs = append(of.Msgs, inner, api.MsgDef{Name: "N"})
	}
	l[0].Tree = of
	if got, e := scope.Find(l, "a", "P.N", "N"); e != api.OK || told(got) != "enum P.N a 0" {
		t.Errorf("N is %d, %s", e, told(got))
	}
	finds(t, l, "a", "P.N", "N", "P.N")
	finds(t, l, "a", "N", "N", "N")
}

// P7.1, P7.2: no units are valid, and have no symbols and no paths.
func TestNoUnits(t *testing.T) {
	for _, l := range [][]api.Unit{nil, {}} {
		if files.Check(l) != api.OK {
			t.Error("no units are not valid")
		}
		refuses(t, "no units", l)
	}
}

// P7.1, P7.2: units that are not valid have no symbols.
func TestUnitsThatAreNotValid(t *testing.T) {
	bad := func(tree api.Tree) []api.Unit {
		l := units("a: message M{}", `b: import"a";message M{}`, "c: message M{}")
		l[2].Tree = tree
		return l
	}
	for what, l := range map[string][]api.Unit{
		"an empty path":      units(": message M{}", "a: message M{}"),
		"no path":            units("a: message M{}", "b?: message M{}"),
		"a long path":        units(strings.Repeat("a", api.MaxPath+1)+": message M{}", "b: message M{}"),
		"an order":           units("b: message M{}", "a: message M{}"),
		"the same path":      units("a: message M{}", "a: message M{}"),
		"17 units":           units("a: message M{}", "b:", "c:", "d:", "e:", "f:", "g:", "h:", "i:", "j:", "k:", "l:", "m:", "n:", "o:", "p:", "q:"),
		"a package":          bad(api.Tree{Package: "p."}),
		"a name":             bad(api.Tree{Msgs: []api.MsgDef{{Name: "M"}, {Name: "1"}}}),
		"an inner name":      bad(api.Tree{Msgs: []api.MsgDef{{Name: "M", Msgs: []api.MsgDef{{}}}}}),
		"a name of an enum":  bad(api.Tree{Enums: []api.EnumDef{{Name: "a.b"}}}),
		"a field":            bad(api.Tree{Msgs: []api.MsgDef{{Name: "M", Fields: make([]api.FieldDef, 1)}}}),
		"a method":           bad(api.Tree{Svcs: []api.SvcDef{{Name: "S", Rpcs: []api.RpcDef{{Name: "F", In: "M"}}}}}),
		"depth":              bad(api.Tree{Msgs: []api.MsgDef{{Name: "M", Msgs: deep(8)}}}),
		"129 messages":       bad(api.Tree{Msgs: slices.Repeat([]api.MsgDef{{Name: "M"}}, api.MaxMsgs+1)}),
		"a long text":        bad(api.Tree{Msgs: []api.MsgDef{{Name: "M", Fields: []api.FieldDef{{Name: "a", Type: "int32", Card: api.One, Num: 1, Oneof: -1, Json: strings.Repeat("k", api.MaxText)}}}}}),
		"an import":          units("a: message M{}", `b: import"z";message M{}`),
		"an import of none":  bad(api.Tree{Imports: []api.Import{{}}}),
		"the same import":    units("a: message M{}", `b: import"a";import public"a";`),
		"itself":             units(`a: import"a";message M{}`),
		"a circle":           units(`a: import"b";message M{}`, `b: import"c";`, `c: import public"a";`),
		"a circle of others": units("a: message M{}", `b: import"c";`, `c: import"b";`),
	} {
		if files.Check(l) == api.OK {
			t.Errorf("%s: the units are valid", what)
		}
		refuses(t, what, l)
	}
	valid := bad(api.Tree{Msgs: []api.MsgDef{{Name: "M", Msgs: deep(7)}}})
	if got := scope.All(valid); len(got) != 10 {
		t.Errorf("the symbols are %v", got)
	}
}

// deep is messages that are that deep.
func deep(count int) (l []api.MsgDef) {
	for range count {
		l = []api.MsgDef{{Name: "M", Msgs: l}}
	}
	return l
}

// P7.1: as many symbols as there may be.
func TestManySymbols(t *testing.T) {
	var l []api.Source
	count := 0
	for i := range api.MaxFiles {
		var b strings.Builder
		b.WriteString(head + "package p;")
		for range api.MaxMsgs {
			b.WriteString("enum E{}message M{enum A{}enum A{}message A{}}")
			count += 5
		}
		l = append(l, api.Source{Path: "f" + string(rune('a'+i)), Text: b.String()})
	}
	got := scope.All(parsed(l))
	if len(got) != count || !slices.Equal(got, secondAll(l)) {
		t.Errorf("there are %d symbols, want %d", len(got), count)
	}
}
