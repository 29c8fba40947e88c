package check_test

import (
	"math"
	"slices"
	"strings"
	"testing"

	"signetry/api"
	"signetry/check"
	"signetry/files"
	"signetry/tree"
)

// refuses checks that units are not valid.
func refuses(t *testing.T, what string, l []api.Unit) {
	t.Helper()
	if got, e := check.All(l); e != api.ErrArg || len(got) != 0 {
		t.Errorf("%s: %d, %v", what, e, allTold(got))
	}
	if at, e := check.First(l); e != api.ErrArg || at != (api.Where{}) {
		t.Errorf("%s: %d, %v", what, e, at)
	}
}

// P8.1: no units, and units with nothing in them.
func TestNoDiagnostics(t *testing.T) {
	is(t, nil)
	is(t, []api.Unit{})
	is(t, []api.Unit{{Path: "a"}})
	marked(t, "a: ", "b: ;", `c: package p;import"a";import public"b";`)
	marked(t, `a: package p;message M{int32 a=1;N b=2;message N{}}enum E{A=0;}service S{rpc F(M)returns(M.N);}`, `b: import"a";package q;message M{p.M a=1;map<int32,p.E>b=2;}`)
}

// P8.1: units that are not valid, whether something is wrong in them or not.
func TestInvalidUnits(t *testing.T) {
	for _, body := range []string{"", "message M{}", "enum E{}"} {
		a, b := "a: "+body, "b: "+strings.ReplaceAll(body, "M", "N")
		refuses(t, "the same path twice", units(a, a))
		refuses(t, "in another order", units(b, a))
		refuses(t, "a path that is none", units("a b: "+body))
		refuses(t, "no path", units(": "+body))
		refuses(t, "a path that is too long", []api.Unit{{Path: strings.Repeat("a", 65)}})
		refuses(t, "an import that is missing", units(`a: import"b";`+body))
		refuses(t, "an import that imports itself", units(`a: import"a";`+body))
		refuses(t, "imports around", units(`a: import"b";`+body, `b: import"a";`))
		refuses(t, "the same import twice", units(`a: import"b";import"b";`+body, b))
	}
	var l []api.Unit
	for i := range 17 {
		l = append(l, parsed(string(rune('a'+i)), head))
	}
	is(t, l[:16])
	refuses(t, "17 units", l)
}

// P8.1: units whose trees are none.
func TestInvalidTrees(t *testing.T) {
	for what, spoil := range map[string]func(of *api.Tree){
		"a package":             func(of *api.Tree) { of.Package = "p." },
		"a message":             func(of *api.Tree) { of.Msgs[0].Name = "" },
		"a long name":           func(of *api.Tree) { of.Msgs[0].Name = strings.Repeat("M", 33) },
		"a field":               func(of *api.Tree) { of.Msgs[0].Fields[0].Name = "1" },
		"a number":              func(of *api.Tree) { of.Msgs[0].Fields[0].Num = -1 },
		"a great number":        func(of *api.Tree) { of.Msgs[0].Fields[0].Num = 1<<31 + 1 },
		"a card":                func(of *api.Tree) { of.Msgs[0].Fields[0].Card = 0 },
		"a type":                func(of *api.Tree) { of.Msgs[0].Fields[0].Type = "a..b" },
		"a key":                 func(of *api.Tree) { of.Msgs[0].Fields[0].Key = "int32" },
		"a oneof of a field":    func(of *api.Tree) { of.Msgs[0].Fields[0].Oneof = 7 },
		"a oneof":               func(of *api.Tree) { of.Msgs[0].Oneofs[0].S = "" },
		"a range":               func(of *api.Tree) { of.Msgs[0].Ranges[0].Hi = 4 },
		"a reserved name":       func(of *api.Tree) { of.Msgs[0].Names[0].S = "a b" },
		"a value":               func(of *api.Tree) { of.Enums[0].Values[0].Name = "option" },
		"a number of a value":   func(of *api.Tree) { of.Enums[0].Values[0].Num = -1<<31 - 1 },
		"a range of an enum":    func(of *api.Tree) { of.Enums[0].Ranges[0].Lo = math.MinInt },
		"a method":              func(of *api.Tree) { of.Svcs[0].Rpcs[0].In = "" },
		"a service":             func(of *api.Tree) { of.Svcs[0].Name = "a.b" },
		"an import":             func(of *api.Tree) { of.Imports = []api.Import{{Path: ""}} },
		"too many fields":       func(of *api.Tree) { of.Msgs[0].Fields = slices.Repeat(of.Msgs[0].Fields[:1], 65) },
		"too many messages":     func(of *api.Tree) { of.Msgs = slices.Repeat(of.Msgs, 129) },
		"messages too deep":     func(of *api.Tree) { of.Msgs = deep(9) },
		"an inner enum":         func(of *api.Tree) { of.Msgs[0].Enums = []api.EnumDef{{}} },
		"a name of a map's key": func(of *api.Tree) { of.Msgs[0].Fields[0].Card = api.Map },
	} {
		l := units("a: message M{M a=1;oneof o{M b=2;}reserved 5;reserved \"r\";}enum E{A=0;reserved 5;}service S{rpc F(M)returns(M);}", "b: message N{}")
		is(t, l)
		spoil(&l[0].Tree)
		refuses(t, what, l)
	}
}

// deep is messages in each other, so deep.
func deep(n int) (l []api.MsgDef) {
	for range n {
		l = []api.MsgDef{{Name: "M", Msgs: l}}
	}
	return l
}

// P8.1: by increasing paths, bytewise, then by offsets, then by errors.
func TestOrder(t *testing.T) {
	marked(t, "-: enum ^Zero^E{}", ".: enum ^Twice Zero^E{^Number^A=2147483648;}", "0: service S{rpc F(^Name^X)returns(^Kind^S);}", "A: message M{^Name^X a=^Number^0;}", "_: message N{oneof ^Syntax^o{}oneof ^Syntax Twice^o{}}", "a: service ^Twice^S{}", "a.b: message ^Twice^M{}enum ^Twice Zero^E{}", "a/b: enum ^Twice Zero^E{}message ^Twice^M{}", "aa: message O{^Name^X a=1;}")
	// Elements are told by their places, whatever their kind is, and however deep they are.
	marked(t, `a: service S{rpc F(^Name^X)returns(S_);}enum ^Zero^E{}message M{reserved "a",^Twice^"a";reserved ^Number^0;message N{^Name^X b=1;}int32 ^Reserved^a=1;enum ^Zero^F{}oneof ^Syntax^o{}int32 b=^Number^1;message ^Twice^N{}}message S_{}enum ^Twice Zero^E{}service ^Twice^M{}`)
}

// P8.1: each diagnostic is told once, even if two elements are at the same place,
// as they are in trees without offsets.
func TestEachOnce(t *testing.T) {
	l := units("a: message M{int32 a=1;int32 a=1;int32 a=1;X b=0;X c=0;}message M{}message M{}", "b: enum E{}enum F{}", "c: enum E{}enum F{}enum E{A=1;A=1;}")
	for i := range l {
		l[i].Tree = tree.Bare(l[i].Tree)
	}
	is(t, l, "a 0 ErrName", "a 0 ErrTwice", "a 0 ErrNumber", "a 0 ErrKey", "b 0 ErrZero", "c 0 ErrTwice", "c 0 ErrNumber", "c 0 ErrZero")
	// One element, with one error for two reasons.
	l = units("a: message M{int32 a=1;int32 b=1;}", "b: message N{map<X,S>a=1;}service S{}")
	is(t, l, "a 44 ErrNumber", "b 30 ErrKind")
	l = units("a: package " + long(127) + ";" + many(127, "message M{}") + "message N{message O{}message P{}}")
	all, _ := check.All(l)
	limits := 0
	for _, w := range all {
		if w.E == api.ErrLimit {
			limits++
		}
	}
	if limits != 130 || len(all) != 130+126 {
		t.Errorf("%d of %d", limits, len(all))
	}
}

// P8.1: offsets are those of the trees, whatever they are.
func TestStrangeOffsets(t *testing.T) {
	l := units("a: enum E{}enum F{}enum G{}enum H{}message M{X a=0;X b=0;}service S{rpc F(X)returns(M);}", "b: enum E{B=0;}")
	for i, at := range []int{math.MaxInt, -1, 0, math.MinInt} {
		l[0].Tree.Enums[i].At = at
	}
	for i, at := range []int{5, 3} {
		f := &l[0].Tree.Msgs[0].Fields[i]
		f.At, f.TypeAt, f.NumAt = -100, at, at-4
	}
	l[0].Tree.Svcs[0].Rpcs[0].InAt = -2
	l[1].Tree.Enums[0].At = math.MinInt
	is(t, l, "a -9223372036854775808 ErrZero", "a -2 ErrName", "a -1 ErrNumber", "a -1 ErrZero", "a 0 ErrZero", "a 1 ErrNumber", "a 3 ErrName", "a 5 ErrName", "a 9223372036854775807 ErrZero", "b -9223372036854775808 ErrTwice")
}

// P8.1: files that are read are checked with the offsets of their own texts.
func TestReadFiles(t *testing.T) {
	text := head + "// message M{\nimport 'lib/b.proto';\nmessage M {\n  N a = 1;\n  X b = 2;\n}\n"
	l, _, e := files.Read([]api.Source{{Path: "a.proto", Text: text}, {Path: "lib/b.proto", Text: head + "message N{}"}, {Path: "c.proto", Text: "!"}}, []string{"a.proto"})
	if e != api.OK {
		t.Fatal(e)
	}
	got, e := check.All(l)
	if want := (api.Wrong{Path: "a.proto", At: strings.Index(text, "X"), E: api.ErrName}); e != api.OK || len(got) != 1 || got[0] != want {
		t.Errorf("%d, %v, want %v", e, got, want)
	}
}
