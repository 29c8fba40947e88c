package tree_test

import (
	"fmt"
	"slices"
	"strings"
	"testing"

	"signetry/api"
	"signetry/tree"
)

// markedAll checks that each text has ErrSyntax at its @, between these two.
func markedAll(t *testing.T, before, after string, l ...string) {
	t.Helper()
	for _, s := range l {
		marked(t, api.ErrSyntax, before+s+after)
	}
}

// P4.1: an error of a token comes ahead of all others, wherever it is.
func TestTokenErrors(t *testing.T) {
	for bad, e := range map[string]api.Errno{
		"#": api.ErrWord, "/* ": api.ErrWord, "08": api.ErrWord, strings.Repeat("a", 33): api.ErrWord, "2147483649": api.ErrRange, "'a": api.ErrQuote, `"\z"`: api.ErrQuote,
	} {
		for _, s := range []string{"", head, "} ", "syntax=3; ", head + "message M{ ", head + "} }", head + "message M{int32 a=b;} "} {
			fails(t, s+bad, len(s), e)
			fails(t, s+bad+"\n# 08 'b", len(s), e)
		}
	}
	fails(t, strings.Repeat(" ", api.MaxText+1), 0, api.ErrLimit)
	fails(t, "}"+strings.Repeat(" ", api.MaxText), 0, api.ErrLimit)
	fails(t, head+"}"+strings.Repeat(" ", api.MaxText-len(head)-1), 16, api.ErrSyntax)
	accepts(t, head+strings.Repeat(" ", api.MaxText-len(head)))
}

// P4.1: of several errors the first one counts.
func TestFirstError(t *testing.T) {
	markedAll(t, "", "",
		`@foo; bar; message M{int32 a=;}`,
		`message M{int32 a=@;}enum E{A=;}}`,
		`enum E{A=0;B@;reserved 5 to 3;}message M{`,
		`enum E{A=0;reserved 5 to @3;B;}`,
		`message M{reserved 5 to @3,"a";}`,
		`message M{reserved 5 to @3}`,
		`import @"a b" import`,
		`package a.@5;package b;import"";`,
	)
	fails(t, `syntax="proto2" message`, 7, api.ErrSyntax)
}

// P4.1: the syntax comes first, and once.
func TestSyntax(t *testing.T) {
	for _, s := range []string{`syntax="proto3";`, ` syntax = 'proto3' ; `, `syntax="\x70roto3";`, "/**/syntax//\n" + `=  "pr\157to3";//`} {
		parses(t, s, api.Tree{})
	}
	for _, s := range []string{
		`@`, ` @`, `//@`, `@;` + head, `@Syntax="proto3";`, `@"syntax"="proto3";`, `@package a;` + head, `@edition="2023";`,
		`syntax@`, `syntax@"proto3";`, `syntax@'='"proto3";`, `syntax=@="proto3";`,
		`syntax=@`, `syntax=@;`, `syntax=@proto3;`, `syntax=@"";`, `syntax=@"proto";`, `syntax=@"proto2";`, `syntax=@"Proto3";`, `syntax=@"proto3 ";`, `syntax=@"proto33";`, `syntax=@'proto3\000';`, `syntax=@3;`,
		`syntax="proto3"@`, `syntax="proto3"@,`, `syntax="proto3"@";"`, `syntax="proto3"@"";`, `syntax="proto3"@"proto3";`, head + `@` + head,
	} {
		before, after, _ := strings.Cut(s, "@")
		fails(t, before+after, len(before), api.ErrSyntax)
	}
}

// P4.1: the elements of a file may stand in any order, and there may be none.
func TestFileElements(t *testing.T) {
	want := told(api.Tree{
		Package: "p", Imports: []api.Import{{Path: "i"}},
		Msgs: []api.MsgDef{{Name: "M"}}, Enums: []api.EnumDef{{Name: "E"}}, Svcs: []api.SvcDef{{Name: "S"}},
	})
	var orders func(done string, rest []string)
	orders = func(done string, rest []string) {
		if len(rest) == 0 {
			if got := told(tree.Bare(accepts(t, head+done))); got != want {
				t.Errorf("%s: %s", done, got)
			}
		}
		for i := range rest {
			orders(done+rest[i], slices.Delete(slices.Clone(rest), i, i+1))
		}
	}
	orders("", []string{"package p;", `import "i";`, "message M{}", "enum E{}", "service S{}", ";"})
	parses(t, head+";;;", api.Tree{})
	markedAll(t, "", "", "@}", "@{}", "@,", "@5", "@'message' M{}", "@a", "@int32 a=1;", "@syntax", "@option a=1;", "@extend M{}", "@reserved 5;", "@oneof o{}", "@rpc F(M)returns(N);", "@to", "@map<a,b>c=1;", "@repeated a b=1;")
}

// P4.1: at most one package, wherever it stands.
func TestPackage(t *testing.T) {
	for s, want := range map[string]string{
		"a": "a", "a.b": "a.b", "package": "package", "a.package.message.to.max": "a.package.message.to.max", "_": "_", "a . b /**/ . c": "a.b.c",
	} {
		parses(t, head+"package "+s+";", api.Tree{Package: want})
	}
	markedAll(t, "", "",
		"package a;@package b;", "package a;@package a;", "package a;message M{}@package;", "package a;;@package a.;", "package a.b;import'c';@package",
		"package@", "package@.a;", "package@;", "package a@", "package a.@;", "package a.@.b;", "package a @b;", "package @5;", `package@"a";`, "package a@{}", "package a@-b;", "package@{}", "package a@=b;", "package a.@5;", "package a@,b;",
	)
}

// P4.1: an import is a path, which may be public.
func TestImports(t *testing.T) {
	parses(t, head+`import"a";import public"b";import 'public';import public "public";`, api.Tree{Imports: []api.Import{
		{Path: "a", At: 22}, {Path: "b", Public: true, At: 39}, {Path: "public", At: 50}, {Path: "public", Public: true, At: 73},
	}})
	markedAll(t, "import ", "",
		"@", "@;", "@a;", "public@;", "public @public'a';", "@weak'a';", "'a'@public;", "'a'@", "'a'@'b';", "'a'@,'b';", "'a'@';'", "@'';", "@'a b';", "@'a\\\\b';", "@'a:b';", "@'\\xc3\\xa4';", "public @'a b';", "@5;", "@<a>;", "@.;",
	)
	longest := strings.Repeat("a/.-_Z09", api.MaxPath/8)
	parses(t, head+`import"`+longest+`";`, api.Tree{Imports: []api.Import{{Path: longest, At: 22}}})
	markedAll(t, "", "", `import@"`+longest+`a";`, `import public@"a`+longest+`";`)
}

// P4.1: what a field has, by its card.
func TestFields(t *testing.T) {
	for s, want := range map[string]api.FieldDef{
		"int32 a=1;":          {Name: "a", Type: "int32", Card: api.One, Num: 1},
		"optional int32 a=1;": {Name: "a", Type: "int32", Card: api.Opt, Num: 1},
		"repeated int32 a=1;": {Name: "a", Type: "int32", Card: api.Rep, Num: 1},
		"map<int32,M>a=1;":    {Name: "a", Type: "M", Key: "int32", Card: api.Map, Num: 1},
		"map < .a . b , . c . d > a = 0x10 [ json_name = 'k' ] ;": {Name: "a", Type: ".c.d", Key: ".a.b", Card: api.Map, Num: 16, Json: "k"},
		". a . b /**/ . c d=0;":                                   {Name: "d", Type: ".a.b.c", Card: api.One},
		"a .b c=1;":                                               {Name: "c", Type: "a.b", Card: api.One, Num: 1},
		"a a=2147483648;":                                         {Name: "a", Type: "a", Card: api.One, Num: 1 << 31},
		"a a=017[json_name=''];":                                  {Name: "a", Type: "a", Card: api.One, Num: 15},
		`optional a b=1[json_name="\xff a\0\"b"];`:                {Name: "b", Type: "a", Card: api.Opt, Num: 1, Json: "\xff a\x00\"b"},
		"repeated a.b c=1[json_name='json_name'];":                {Name: "c", Type: "a.b", Card: api.Rep, Num: 1, Json: "json_name"},
	} {
		m := inMessage(t, s)
		if len(m.Fields) != 1 {
			t.Fatalf("%s: %v", s, m)
		}
		f := m.Fields[0]
		f.At, f.TypeAt, f.NumAt, want.Oneof = 0, 0, 0, -1
		if f != want {
			t.Errorf("%s: %+v", s, f)
		}
	}
}

// P4.1: fields that are none, by where they stop being one.
func TestNoFields(t *testing.T) {
	markedAll(t, "message M{", "}",
		"int32 a=@-1;", "int32 a=@a;", "int32 a=@'1';", "int32 a=@;", "int32 a=@max;", "int32 a@;", "int32 a @1;", "int32@=1;", "int32 @5=1;", "int32@'a'=1;", "int32 a=1@", "int32 a=1@,", "int32 a=1@';'",
		"int32 a=1@.5;", "int32 a=1 @to 2;", "int32 a@,b=1;", "int32 a@.b=1;", "int32 a @b=1;", "int32.@=1;", "int32.@.a b=1;", ".@.a b=1;", "@-a b=1;", "@5 a=1;", "@'int32' a=1;", "@=1;", "@<a>b=1;", "@[json_name='a'];",
		"required int32 @a=1;", "optional optional int32 @a=1;", "repeated optional int32 @a=1;", "optional repeated int32 @a=1;", "optional@;", "optional a@=1;", "optional map@<a,b>c=1;", "repeated map@<a,b>c=1;", "optional@}", "repeated @5 a=1;",
	)
	markedAll(t, "message M{map", "}",
		" @a=1;", "@.a b=1;", "@=1;", "@;", "<@>a=1;", "<a@>a=1;", "<a,@>a=1;", "<@,b>a=1;", "<a,b@,c>a=1;", "<a @b>c=1;", "<a,b>@=1;", "<a,b>@.c=1;", "<a,b>@5=1;", "<a,b>c=1[@];", "<a,map@<b,c>>d=1;", "<repeated @a,b>c=1;", "@(a,b)c=1;", "<a,b@)c=1;", "<@5,b>c=1;", "<a,@'b'>c=1;", "<a.@,b>c=1;", "<a,b.@>c=1;", "<a,b>c@;",
	)
	markedAll(t, "message M{int32 a=1", "}",
		"[@];", "[@deprecated=true];", "[@packed=true];", "[@json_names='a'];", "[@json='a'];", "[@Json_name='a'];", "[@'json_name'='a'];", "[@(json_name)='a'];", "[@5='a'];", "[@a];",
		"[@=];", "[json_name@];", "[json_name@'a'];", "[json_name@,'a'];", "[json_name=@];", "[json_name=@a];", "[json_name=@5];", "[json_name=@json_name];", "[json_name='a'@;", "[json_name='a'@,json_name='b'];", "[json_name='a'@,];", "[json_name='a'@'b'];", "[json_name='a'@']'",
		"[json_name='a']@", "[json_name='a']@[json_name='b'];", "[json_name@.a='b'];", "@{json_name='a'};", "@<json_name='a'>;", " @json_name='a';",
	)
	markedAll(t, "message M{", "", "@", "int32@", "int32 a=1;@", "optional@", "map<a,b>c=1[json_name='a']@", "int32 a@[json_name='a']=1;}")
}

// P4.1: fields of oneofs are among those of the message, with their oneof.
func TestOneofs(t *testing.T) {
	m := inMessage(t, "a f0=1;oneof x{a f1=2;;.b.c f2=3[json_name='k'];}oneof y{}a f3=4;oneof z{a f4=5;}oneof x{;a f5=6;}optional a f6=7;")
	for i, want := range []struct{ oneof, card int }{{-1, api.One}, {0, api.Opt}, {0, api.Opt}, {-1, api.One}, {2, api.Opt}, {3, api.Opt}, {-1, api.Opt}} {
		f := m.Fields[i]
		if f.Oneof != want.oneof || f.Card != want.card || f.Name != fmt.Sprint("f", i) || f.Num != i+1 {
			t.Errorf("field %d: %+v", i, f)
		}
	}
	if want := "[{x 39} {y 81} {z 97} {x 113}]"; len(m.Fields) != 7 || m.Fields[2].Json != "k" || fmt.Sprint(m.Oneofs) != want {
		t.Errorf("%+v", m)
	}
	markedAll(t, "message M{oneof", "}",
		"@{}", " o@;", " o@.p{}", " @5{}", "@'o'{}", " o@=1;", " o{@5}", " o{a@}", " o{a b@}", " o{a b=1@}", " o{a b=1;@{}}", " o{@,}", " o{@'a' b=1;}",
		" o{oneof@{}}", " o{oneof p@{}}", " o{message M@{}}", " o{enum E@{}}", " o{reserved @5;}", " o{reserved@'a';}", " o{a b=@-1;}", " o{a b=1[@a='b'];}",
	)
	markedAll(t, "message M{oneof", "", "@", " o@", " o{@", " o{a b=1;@", " o{}@", " o{}}@}")
}

// P4.1: values of enums may be negative, and 0 with a minus is 0.
func TestEnums(t *testing.T) {
	n := inEnum(t, ";A=0;B=-1;C=-0;D=2147483648;E=-2147483648;F=- /**/ 0x10;;G=017;A=0;")
	want := "[{Name:A Num:0 At:24} {Name:B Num:-1 At:28} {Name:C Num:0 At:33} {Name:D Num:2147483648 At:38} {Name:E Num:-2147483648 At:51} " +
		"{Name:F Num:-16 At:65} {Name:G Num:15 At:80} {Name:A Num:0 At:86}]"
	if got := fmt.Sprintf("%+v", n.Values); got != want {
		t.Errorf("%s, want %s", got, want)
	}
	markedAll(t, "enum E{", "}",
		"A@", "A@;", "A=@;", "A=-@;", "A=-@-1;", "A=-@a;", "A=@a;", "A=1@", "A=1@,B=2;", "A @B=1;", "A@.B=1;", "@.A=1;", "@5=1;", "@'A'=1;", "@-A=1;", "A=1@[json_name='a'];", "A=@'1';", "A=@max;", "A=1 @to 2;", "A=1@-1;", "A@-1;", "@=1;", "@{}", "enum @F{}", "message @M{}",
	)
	markedAll(t, "enum ", "", "@", "@{}", "@;", "E@;", "E@", "E@.F{}", "@5{}", "@'E'{}", "E{@", "E{@{}}", "E{}@}", "E@(", "E{A=0;@]")
}

// P4.1: services and their calls, which end with a semicolon or with braces.
func TestServices(t *testing.T) {
	got := accepts(t, head+"service S{rpc rpc(returns)returns(rpc){};rpc returns(.rpc . a)returns(stream);rpc F(M)returns(N){}}service S{}")
	want := "[{Name:S At:0 Rpcs:[{Name:rpc In:returns Out:rpc At:0 InAt:0 OutAt:0} {Name:returns In:.rpc.a Out:stream At:0 InAt:0 OutAt:0} " +
		"{Name:F In:M Out:N At:0 InAt:0 OutAt:0}]} {Name:S At:0 Rpcs:[]}]"
	if bare := fmt.Sprintf("%+v", tree.Bare(got).Svcs); bare != want {
		t.Errorf("%s, want %s", bare, want)
	}
	markedAll(t, "service S{rpc", "}",
		"@(M)returns(N);", "@.F(M)returns(N);", " F@.G(M)returns(N);", " F@;", " F @returns(N);", " @5(M)returns(N);", "@'F'(M)returns(N);",
		" F(@)returns(N);", " F(stream @M)returns(N);", " F(M@,N)returns(N);", " F(@5)returns(N);", " F(@'M')returns(N);", " F(M.@)returns(N);", " F(M@;", " F(M@>returns(N);", " F(M@", " F(M)@;", " F(M)@(N);", " F(M)@return(N);", " F(M)@'returns'(N);",
		" F(M)returns @N;", " F(M)returns(@);", " F(M)returns(@'N');", " F(M)returns(N.@);", " F(M)returns(N@;", " F(M)returns(N)@", " F(M)returns(N){@;}", " F(M)returns(N){@option a=1;}", " F(M)returns(N){@{}}", " F(M)returns(N)@returns(N);", " F(M)returns(N)@,", " F(M)returns(N)@rpc", " F(M)returns(N)@[]",
	)
	markedAll(t, "service S{", "",
		"@", "@a;", "@5", "@option a=1;", "@stream;", "@message M{}", "@enum E{}", "@rpcs", "@'rpc' F(M)returns(N);", "@F(M)returns(N);", "@reserved 5;", "@.", "@{}", "@service T{}", "rpc F(M)returns(N){}}@}", "rpc F(M)returns(N){@", "rpc F(M)returns(N){}@", "};@}", "@]", "@int32 a=1;", "@A=1;",
	)
	markedAll(t, "service ", "", "@", "@{}", "@;", "S@;", "S@", "S@.T{}", "@5{}", "@'S'{}", "S@(")
}
