package print_test

import (
	"fmt"
	"testing"

	"signetry/api"
	"signetry/print"
)

// P5.1: all kinds of lines, in their order and with their indentation, whatever
// the order of the text is.
func TestAllLines(t *testing.T) {
	s := head + `
service S { rpc F ( M ) returns ( .p.N ) { } ; rpc G(.a)returns(b.c); } enum E { reserved "x" ; A = 0 ; reserved - 0X10 to - 010, 5 ; B = -1; }
message M { reserved 'n', "m"; message N { enum I { } message D { } } enum F { Z=0 ; reserved 1; } reserved 1 ; reserved 2 to 3 , 4 to max;
  repeated .p.N r = 1 ; map < string , E > m = 2 [ json_name = 'a\'b"\xff' ] ; oneof o { int32 i = 3 ; ; p.X j = 0x4 [json_name=""] ; } a . b c = 5 ; optional map d = 6 ; oneof e { } ; }
import public "b/c" ; ; package p . q ; message Q {} enum G {} import 'a' ; service T { }`
	tidies(t, s, lines(
		`package p.q;`,
		`import public "b/c";`,
		`import "a";`,
		`message M {`,
		`  repeated .p.N r = 1;`,
		`  map<string, E> m = 2 [json_name = "a'b\"\377"];`,
		`  oneof o {`,
		`    int32 i = 3;`,
		`    p.X j = 4;`,
		`  }`,
		`  a.b c = 5;`,
		`  optional map d = 6;`,
		`  oneof e {`,
		`  }`,
		`  message N {`,
		`    message D {`,
		`    }`,
		`    enum I {`,
		`    }`,
		`  }`,
		`  enum F {`,
		`    Z = 0;`,
		`    reserved 1;`,
		`  }`,
		`  reserved 1, 2 to 3, 4 to max;`,
		`  reserved "n", "m";`,
		`}`,
		`message Q {`,
		`}`,
		`enum E {`,
		`  A = 0;`,
		`  B = -1;`,
		`  reserved -16 to -8, 5;`,
		`  reserved "x";`,
		`}`,
		`enum G {`,
		`}`,
		`service S {`,
		`  rpc F(M) returns (.p.N);`,
		`  rpc G(.a) returns (b.c);`,
		`}`,
		`service T {`,
		`}`,
	))
}

// P5.1: a range has one number if its ends are the same, and max where it ends
// there and does not start there.
func TestRangeLines(t *testing.T) {
	const inMessages, inEnums = 1<<29 - 1, 1<<31 - 1
	for _, c := range []struct {
		lo, hi           int
		message, enumned string
	}{
		{0, 0, "0", "0"},
		{5, 5, "5", "5"},
		{5, 6, "5 to 6", "5 to 6"},
		{0, 1 << 31, "0 to 2147483648", "0 to 2147483648"},
		{1 << 31, 1 << 31, "2147483648", "2147483648"},
		{1, inMessages, "1 to max", "1 to 536870911"},
		{inMessages - 1, inMessages, "536870910 to max", "536870910 to 536870911"},
		{inMessages, inMessages, "536870911", "536870911"},
		{1, inMessages - 1, "1 to 536870910", "1 to 536870910"},
		{inMessages, inMessages + 1, "536870911 to 536870912", "536870911 to 536870912"},
		{1, inEnums, "1 to 2147483647", "1 to max"},
		{inEnums, inEnums, "2147483647", "2147483647"},
		{inEnums - 1, inEnums, "2147483646 to 2147483647", "2147483646 to max"},
		{inEnums, 1 << 31, "2147483647 to 2147483648", "2147483647 to 2147483648"},
		{-1 << 31, inEnums, "", "-2147483648 to max"},
		{-1 << 31, -1 << 31, "", "-2147483648"},
		{-9, -7, "", "-9 to -7"},
		{-1, -1, "", "-1"},
		{-1, 0, "", "-1 to 0"},
		{-inEnums, inEnums, "", "-2147483647 to max"},
		{-inMessages, inMessages, "", "-536870911 to 536870911"},
	} {
		l := []api.Span{{Lo: c.lo, Hi: c.hi}}
		if got, want := accepts(t, c.enumned, api.Tree{Enums: []api.EnumDef{{Name: "E", Ranges: l}}}), lines("enum E {", "  reserved "+c.enumned+";", "}"); got != want {
			t.Errorf("%s\nwant\n%s", got, want)
		}
		if c.message == "" {
			continue
		}
		if got, want := accepts(t, c.message, nested(0, api.MsgDef{Name: "M", Ranges: l})), lines("message M {", "  reserved "+c.message+";", "}"); got != want {
			t.Errorf("%s\nwant\n%s", got, want)
		}
	}
}

// P5.1: the line of a field of each kind.
func TestFieldLines(t *testing.T) {
	for kind, want := range map[string]string{
		"one": "  T a = 1;", "optional": "  optional T a = 1;", "repeated": "  repeated T a = 1;", "map": "  map<K, T> a = 1;",
		"oneof": "  oneof o0 {\n    T a = 1;\n  }",
	} {
		f := fieldKinds()[kind]
		oneofs := f.Oneof + 1
		if got := accepts(t, kind, nested(0, oneField(f, oneofs))); got != lines("message M {", want, "}") {
			t.Errorf("%s: %s", kind, got)
		}
	}
}

// P5.1: the literal of a json_name, which any bytes may be.
func TestJsonNames(t *testing.T) {
	for json, want := range map[string]string{
		"": "", "k": ` [json_name = "k"]`, "a b": ` [json_name = "a b"]`, `"'\`: ` [json_name = "\"'\\"]`,
		"\n\r\t\x00\x1f\x7f": ` [json_name = "\n\r\t\000\037\177"]`, "\xc3\xa4\xff": ` [json_name = "\303\244\377"]`,
		"\x001": ` [json_name = "\0001"]`, "//": ` [json_name = "//"]`, "}": ` [json_name = "}"]`,
	} {
		for kind, f := range fieldKinds() {
			f.Json = json
			s := accepts(t, kind, nested(0, oneField(f, 1)))
			line := map[string]string{"one": "T", "optional": "optional T", "repeated": "repeated T", "map": "map<K, T>", "oneof": "  T"}[kind] + " a = 1" + want + ";"
			wantText := lines("message M {", "  "+line, "  oneof o0 {", "  }", "}")
			if kind == "oneof" {
				wantText = lines("message M {", "  oneof o0 {", "  "+line, "  }", "}")
			}
			if s != wantText {
				t.Errorf("%s\nwant\n%s", s, wantText)
			}
		}
	}
}

// P5.1: a oneof without fields is written before the next one that has some, or
// else after all fields; one with fields in the place of the first one.
func TestEmptyOneofs(t *testing.T) {
	const x, y, z, none = "  oneof x {", "  oneof y {", "  oneof z {", "  }"
	field := func(i int) string { return fmt.Sprint("  optional T f", i, " = ", i, ";") }
	inside := func(i int) string { return fmt.Sprint("    T f", i, " = ", i, ";") }
	for _, c := range []struct {
		l    []int
		want []string
	}{
		{nil, []string{x, none, y, none, z, none}},
		{[]int{-1}, []string{field(0), x, none, y, none, z, none}},
		{[]int{-1, 0}, []string{field(0), x, inside(1), none, y, none, z, none}},
		{[]int{0, -1, -1}, []string{x, inside(0), none, field(1), field(2), y, none, z, none}},
		{[]int{-1, 1, -1}, []string{field(0), x, none, y, inside(1), none, field(2), z, none}},
		{[]int{-1, 2, 2, -1}, []string{field(0), x, none, y, none, z, inside(1), inside(2), none, field(3)}},
		{[]int{0, -1, 2, -1}, []string{x, inside(0), none, field(1), y, none, z, inside(2), none, field(3)}},
		{[]int{0, 2}, []string{x, inside(0), none, y, none, z, inside(1), none}},
		{[]int{1, 2}, []string{x, none, y, inside(0), none, z, inside(1), none}},
		{[]int{0, 1}, []string{x, inside(0), none, y, inside(1), none, z, none}},
		{[]int{0, 0, 1, 2}, []string{x, inside(0), inside(1), none, y, inside(2), none, z, inside(3), none}},
	} {
		want := lines(append(append([]string{"message M {"}, c.want...), "}")...)
		if got := accepts(t, fmt.Sprint(c.l), nested(0, oneofsOf(c.l...))); got != want {
			t.Errorf("%v: %s\nwant\n%s", c.l, got, want)
		}
	}
}

// P5.1: ranges and names are on one line each, in the order of their lists.
func TestReservedLines(t *testing.T) {
	ranges := []api.Span{{Lo: 9, Hi: 9}, {Lo: 3, Hi: 4}, {Lo: 3, Hi: 4}}
	names := []api.Text{{S: "z"}, {S: "a"}, {S: "z"}, {S: "reserved"}}
	both := lines("message M {", "  reserved 9, 3 to 4, 3 to 4;", `  reserved "z", "a", "z", "reserved";`, "}")
	if got := accepts(t, "message", nested(0, api.MsgDef{Name: "M", Ranges: ranges, Names: names})); got != both {
		t.Error(got)
	}
	inEnum := lines("enum E {", "  A = 0;", "  reserved 9, 3 to 4, 3 to 4;", `  reserved "z", "a", "z", "reserved";`, "}")
	if got := accepts(t, "enum", api.Tree{Enums: []api.EnumDef{{Name: "E", Values: []api.ValueDef{{Name: "A"}}, Ranges: ranges, Names: names}}}); got != inEnum {
		t.Error(got)
	}
	if got := accepts(t, "names alone", nested(0, api.MsgDef{Name: "M", Names: names[:1]})); got != lines("message M {", `  reserved "z";`, "}") {
		t.Error(got)
	}
}

// P5.1: two blanks more for each brace, down to the deepest message.
func TestIndentation(t *testing.T) {
	inner := api.MsgDef{
		Name: "M", Fields: []api.FieldDef{{Name: "a", Type: "T", Card: api.Opt, Num: 1, Oneof: 0}}, Oneofs: []api.Text{{S: "o"}},
		Enums: []api.EnumDef{{Name: "E", Values: []api.ValueDef{{Name: "A"}}}}, Names: []api.Text{{S: "n"}},
	}
	var before, after []string
	blanks := ""
	for range api.MaxDeep - 1 {
		before = append(before, blanks+"message Around {")
		after = append([]string{blanks + "}"}, after...)
		blanks += "  "
	}
	for _, s := range []string{"message M {", "  oneof o {", "    T a = 1;", "  }", "  enum E {", "    A = 0;", "  }", `  reserved "n";`, "}"} {
		before = append(before, blanks+s)
	}
	if got, want := accepts(t, "8 deep", nested(api.MaxDeep-1, inner)), lines(append(before, after...)...); got != want {
		t.Errorf("%s\nwant\n%s", got, want)
	}
}

// P5.5: texts with the same tree have the same canonical text.
func TestSameTreesSameText(t *testing.T) {
	for _, same := range [][]string{
		{"message M{}enum E{}", "enum E{}message M{}", "enum E { } ; message M { ; }", "/**/enum E{}//\nmessage M{}//"},
		{"package a.b;import'x';", "import \"x\";package a . b;", "import '\\x78'; package a.b;"},
		{"message M{reserved 1,2;reserved'a','b';}", "message M{reserved 1;reserved'a';reserved 2 to 2;reserved'b';}", "message M{reserved\"a\";reserved 01;reserved'b';reserved 0x2;}"},
		{"message M{T a=1;message N{}}", "message M{message N{}T a=1[json_name=''];}"},
		{"message M{reserved 5 to max;}", "message M{reserved 5 to 536870911;}", "message M{reserved 5 to 0x1fffffff;}"},
		{"enum E{reserved 5 to max;}", "enum E{reserved 5 to 2147483647;}"},
		{"enum E{A=0;B=8;}", "enum E{A=-0;B=010;}", "enum E{;A=00;;B=0x8;;}"},
		{"service S{rpc F(M)returns(N);}", "service S{rpc F(M)returns(N){}}", "service S{;rpc F(M)returns(N){};}"},
		{"message M{oneof a{}T x=1;oneof b{T y=2;}}", "message M{T x=1;oneof a{}oneof b{T y=2;;}}"},
		{"message M{T x=1;oneof a{}}", "message M{oneof a{}T x=1;}"},
	} {
		want, _, e := print.Tidy(head + same[0])
		if e != api.OK || want == "" {
			t.Errorf("%s: %d", same[0], e)
		}
		for _, s := range same {
			tidies(t, head+s, want)
		}
		tidies(t, want, want)
	}
}
