package tree_test

import (
	"fmt"
	"strings"
	"testing"

	"signetry/api"
	"signetry/text"
)

// list is a list in a scope: what stands around it, an element with its number
// in the place of %, and with an @ where it starts, and how many there may be.
type list struct {
	before, element, between, after string
	most                            int
	count                           func(api.Tree) int
}

// nests is the places where a message may stand, from the file inwards.
func nests() []struct{ before, after string } {
	return []struct{ before, after string }{
		{"", ""},
		{"message P{", "}"},
		{"message P{int32 a=1;message Q{", "}enum E{}}"},
		{strings.Repeat("message P{", api.MaxDeep-2), strings.Repeat("}", api.MaxDeep-2)},
	}
}

// innermost is the first message, of the first, of the first and so on.
func innermost(t api.Tree) (m api.MsgDef) {
	for l := t.Msgs; len(l) > 0; l = m.Msgs {
		m = l[0]
	}
	return m
}

// innerEnum is the first enum beside which there is no message.
func innerEnum(t api.Tree) api.EnumDef {
	if len(t.Msgs) == 0 {
		return t.Enums[0]
	}
	return innermost(t).Enums[0]
}

// lists is all lists, in all kinds of scopes.
func lists() []list {
	ranges, names := "@%", `@"a%"`
	l := []list{
		{"", `@import"a%";`, "", "", 16, func(t api.Tree) int { return len(t.Imports) }},
		{"", `@import public"a%";`, ";", "", 16, func(t api.Tree) int { return len(t.Imports) }},
		{"", "@message M%{}", "", "", 128, func(t api.Tree) int { return len(t.Msgs) }},
		{"", "@enum E%{}", "", "", 128, func(t api.Tree) int { return len(t.Enums) }},
		{"", "@service S%{}", "", "", 64, func(t api.Tree) int { return len(t.Svcs) }},
		{"service S{", "@rpc F%(M)returns(N);", "", "}", 64, func(t api.Tree) int { return len(t.Svcs[0].Rpcs) }},
		{"service S{", "@rpc F%(M)returns(N){}", ";", "}service T{}", 64, func(t api.Tree) int { return len(t.Svcs[0].Rpcs) }},
	}
	fields := func(t api.Tree) int { return len(innermost(t).Fields) }
	for _, nest := range nests() {
		m := func(before, element, between, after string, most int, count func(api.Tree) int) {
			l = append(l, list{nest.before + "message M{" + before, element, between, after + "}" + nest.after, most, count})
		}
		for _, field := range []string{"a b%=1;", ".a b%=1;", "a.b c%=1[json_name='%'];", "optional a b%=1;", "repeated a b%=1;", "map<a,b>c%=1;"} {
			m("", "@"+field, "", "", 64, fields)
		}
		m("", "@a b%=1;", ";", "enum E{}reserved 5;", 64, fields)
		m("oneof o{", "@a b%=1;", "", "}", 64, fields)
		m("a a=1;optional a b=2;map<a,b>c=3;oneof o{a d=4;}", "@a b%=1;", "", "", 60, func(t api.Tree) int { return fields(t) - 4 })
		m("a a=1;optional a b=2;map<a,b>c=3;oneof o{a d=4;", "@a b%=1;", "", "}", 60, func(t api.Tree) int { return fields(t) - 4 })
		m("", "@oneof o%{}", "", "", 16, func(t api.Tree) int { return len(innermost(t).Oneofs) })
		m("", "@oneof o%{a b=1;}", "a c=1;", "", 16, func(t api.Tree) int { return len(innermost(t).Oneofs) })
		m("", "@enum E%{}", "", "", 128, func(t api.Tree) int { return len(innermost(t).Enums) })
		m("reserved ", ranges, ",", ";", 64, func(t api.Tree) int { return len(innermost(t).Ranges) })
		m("reserved ", ranges+" to max", ";reserved ", ";", 64, func(t api.Tree) int { return len(innermost(t).Ranges) })
		m("reserved ", names, ",", ";", 64, func(t api.Tree) int { return len(innermost(t).Names) })
		m("reserved ", names, ";reserved 5;reserved ", ";", 64, func(t api.Tree) int { return len(innermost(t).Names) })
		e := func(before, element, between, after string, count func(api.Tree) int) {
			l = append(l, list{nest.before + "enum E{" + before, element, between, after + "}" + nest.after, 64, count})
		}
		e("", "@A%=0;", "", "", func(t api.Tree) int { return len(innerEnum(t).Values) })
		e("", "@A%=-1;", ";", "reserved 5;", func(t api.Tree) int { return len(innerEnum(t).Values) })
		e("reserved ", ranges, ",", ";", func(t api.Tree) int { return len(innerEnum(t).Ranges) })
		e("reserved ", "@-% to max", ",", ";", func(t api.Tree) int { return len(innerEnum(t).Ranges) })
		e("reserved ", names, ",", ";", func(t api.Tree) int { return len(innerEnum(t).Names) })
		e("reserved ", names, ";reserved 5;reserved ", ";", func(t api.Tree) int { return len(innerEnum(t).Names) })
	}
	for _, nest := range nests()[1:] {
		before, after := nest.before, nest.after
		l = append(l, list{before, "@message M%{}", "", after, 128, func(t api.Tree) int {
			outer := t.Msgs[0]
			for len(outer.Msgs) == 1 {
				outer = outer.Msgs[0]
			}
			return len(outer.Msgs)
		}})
	}
	return l
}

// holds is a file of which this list has that many elements, the last one with
// its mark.
func (l list) holds(count int) string {
	full := counted(strings.Replace(l.element, "@", "", 1), l.between, count-1)
	return l.before + full + l.between + strings.ReplaceAll(l.element, "%", "999") + l.after
}

// P4.1: as many elements as there may be, in each list of each scope, and one
// more.
func TestLimits(t *testing.T) {
	for _, l := range lists() {
		for _, count := range []int{l.most / 2, l.most - 1, l.most} {
			s := head + strings.Replace(l.holds(count), "@", "", 1)
			if got := l.count(accepts(t, s)); got != count {
				t.Errorf("%s: %d, want %d", s, got, count)
			}
		}
		marked(t, api.ErrLimit, l.holds(l.most+1))
		marked(t, api.ErrLimit, l.holds(l.most+1)+"} message M{oneof")
		// Whatever stands behind its first token.
		before, _, _ := strings.Cut(l.holds(l.most+1), "@")
		first := written(strings.NewReplacer("@", "", "%", "9").Replace(l.element))[0]
		for _, wrong := range []string{"", "}", ";", ",", "5", "'a'", "max"} {
			marked(t, api.ErrLimit, before+"@"+first+" "+wrong)
		}
	}
}

// P4.1: a list in one scope leaves those of others alone.
func TestLimitsOfScopes(t *testing.T) {
	enum := "enum E{" + counted("A%=0;", "", 64) + "reserved " + counted("%", ",", 64) + ";reserved " + counted("'a%'", ",", 64) + ";}"
	rest := counted("a b%=1;", "", 64) + counted("oneof o%{}", "", 16) + "reserved " + counted("%", ",", 64) + ";reserved " + counted("'a%'", ",", 64) + ";"
	many := counted("enum E%{}", "", 127) + counted("message M%{}", "", 127)
	inner := "message M{" + rest + many + enum + "}"
	s := head + counted("import'a%';", "", 16) + counted("service S%{}", "", 63) + "service S{" + counted("rpc F%(M)returns(N);", "", 64) + "}" + many + enum + "message M{" + rest + many + enum + inner + "}"
	got := accepts(t, s)
	outer := got.Msgs[127]
	for _, m := range []api.MsgDef{outer, outer.Msgs[127]} {
		if len(m.Fields) != 64 || len(m.Oneofs) != 16 || len(m.Enums) != 128 || len(m.Ranges) != 64 || len(m.Names) != 64 || len(m.Enums[127].Values) != 64 || len(m.Enums[127].Names) != 64 {
			t.Errorf("%+v", m)
		}
	}
	if len(got.Imports) != 16 || len(got.Svcs) != 64 || len(got.Svcs[63].Rpcs) != 64 || len(got.Enums) != 128 {
		t.Errorf("%+v", got)
	}
}

// P4.1: the fields of all oneofs of a message count together.
func TestLimitOfOneofFields(t *testing.T) {
	full := "message M{" + counted("oneof o%{a b=1;a c=2;a d=3;a e=4;}", "", 16)
	if m := innermost(accepts(t, head+full+"}")); len(m.Fields) != 64 || m.Fields[63].Oneof != 15 || m.Fields[60].Oneof != 15 || m.Fields[59].Oneof != 14 {
		t.Errorf("%+v", m)
	}
	marked(t, api.ErrLimit, full+"@a f=5;}")
	marked(t, api.ErrLimit, full+"@oneof p{a f=5;}}")
	marked(t, api.ErrLimit, full[:len(full)-1]+"@a f=5;}}")
	marked(t, api.ErrLimit, full[:len(full)-1]+";@oneof p{}}}")
}

// P4.1: where there is no room for a field, every token but the keywords
// counts as the start of one.
func TestFullOfFields(t *testing.T) {
	for _, full := range []string{"message M{" + counted("a b%=1;", "", 64), "message M{oneof o{" + counted("a b%=1;", "", 64) + "}", "message P{a b=1;message M{" + counted("map<a,b>c%=1;", "", 63) + "oneof o{a b=1;}"} {
		for _, k := range alphabet() {
			switch k {
			case "}":
				accepts(t, head+full+strings.Repeat("}", strings.Count(full, "{")-strings.Count(full, "}")))
			case ";":
				marked(t, api.ErrLimit, full+";;@")
				marked(t, api.ErrLimit, full+";@a")
			case "message", "enum", "oneof", "reserved":
				marked(t, api.ErrSyntax, full+k+"@}")
			case "option", "extensions", "extend", "group":
				marked(t, api.ErrSyntax, full+"@"+k+" a b=1;")
			default:
				marked(t, api.ErrLimit, full+"@"+k+" }")
				marked(t, api.ErrLimit, full+"@"+k+" a b=1;")
			}
		}
		marked(t, api.ErrLimit, full+"@")
		marked(t, api.ErrSyntax, full+"message N{a b=1;}enum E{A=0;}oneof p{}reserved 5;reserved'a';@option")
	}
}

// P4.1: the same in a oneof, which has other keywords.
func TestFullOfFieldsInOneof(t *testing.T) {
	for _, full := range []string{"message M{oneof o{" + counted("a b%=1;", "", 64), "message M{" + counted("a b%=1;", "", 64) + "oneof o{"} {
		for _, k := range alphabet() {
			switch k {
			case "}":
				accepts(t, head+full+"}}")
			case ";":
				marked(t, api.ErrLimit, full+";;@")
			case "option", "optional", "repeated", "map", "group":
				marked(t, api.ErrSyntax, full+"@"+k+" a b=1;")
			default:
				marked(t, api.ErrLimit, full+"@"+k+" }")
				marked(t, api.ErrLimit, full+"@"+k+" b=1;")
			}
		}
		marked(t, api.ErrLimit, full+"@")
	}
}

// P4.1: the same in an enum, for its values.
func TestFullOfValues(t *testing.T) {
	full := "enum E{" + counted("A%=0;", "", 64)
	for _, k := range alphabet() {
		switch k {
		case "}":
			accepts(t, head+full+"}")
		case ";":
			marked(t, api.ErrLimit, full+";;@")
		case "reserved":
			marked(t, api.ErrSyntax, full+"reserved@}")
			marked(t, api.ErrLimit, full+"reserved 5;@")
		case "option":
			marked(t, api.ErrSyntax, full+"@option A=0;")
		default:
			marked(t, api.ErrLimit, full+"@"+k+" }")
			marked(t, api.ErrLimit, full+"@"+k+" =0;")
		}
	}
	marked(t, api.ErrLimit, full+"@")
}

// P4.1: where there is no room for a range, or for a reserved name, every token
// in its place counts as one.
func TestFullOfReserved(t *testing.T) {
	for _, scope := range []string{"message M{", "enum E{"} {
		ranges, names := scope+"reserved "+counted("%", ",", 64), scope+"reserved "+counted("'a%'", ",", 64)
		for _, k := range append(alphabet(), "") {
			for _, full := range []string{ranges, names, names + ";" + ranges[len(scope):], ranges + ";" + names[len(scope):]} {
				marked(t, api.ErrLimit, full+",@"+k)
				marked(t, api.ErrLimit, full+" , @"+k+"-1 to max;")
			}
			literal := strings.HasPrefix(k, `"`)
			marked(t, api.ErrLimit, ranges+";"+names[len(scope):]+";reserved @"+k)
			if literal {
				marked(t, api.ErrLimit, names+";reserved @"+k)
			} else {
				marked(t, api.ErrLimit, ranges+";reserved @"+k)
			}
		}
		// The other list has room, and another element too.
		accepts(t, head+ranges+";reserved'b';}")
		accepts(t, head+names+";reserved 5;}")
		marked(t, api.ErrSyntax, ranges+";reserved @'b c';")
		marked(t, api.ErrSyntax, names+";reserved 5 to @4;")
		marked(t, api.ErrLimit, ranges+";reserved'b';reserved @5 to 4;")
		marked(t, api.ErrLimit, names+";reserved 5;reserved @'b c';")
		// What ends the last one is no other.
		marked(t, api.ErrSyntax, ranges+" @5;")
		marked(t, api.ErrSyntax, names+" @'b';")
		marked(t, api.ErrSyntax, ranges+"@}")
	}
}

// P4.1: messages are nested at most 8 deep.
func TestDepth(t *testing.T) {
	open := func(count int) string { return counted("message M%{", "", count) }
	shut := func(count int) string { return strings.Repeat("}", count) }
	for deep := 1; deep <= 8; deep++ {
		m := innermost(accepts(t, head+open(deep)+"a b=1;oneof o{a c=1;}enum E{A=0;}"+shut(deep)))
		if want := fmt.Sprint("M", deep-1); m.Name != want || len(m.Fields) != 2 || len(m.Enums) != 1 {
			t.Errorf("%d deep: %+v", deep, m)
		}
	}
	for _, before := range []string{open(8), "message A{}" + open(8), open(8) + "a b=1;enum E{}", open(7) + "message A{}message B{", open(8) + "}}}" + open(3)} {
		marked(t, api.ErrDeep, before+"message @M{}"+shut(8))
		marked(t, api.ErrDeep, before+"message @M")
		marked(t, api.ErrDeep, before+"message @M message")
		marked(t, api.ErrDeep, before+"message @M{message N{}}"+shut(8))
		marked(t, api.ErrDeep, before+"message /**/ @message{")
		marked(t, api.ErrSyntax, before+"@option message M{}")
		marked(t, api.ErrSyntax, before+"a @=1;message M{}")
	}
	// A oneof, an enum and a service are no message.
	accepts(t, head+open(8)+"oneof message{message message=1;}enum message{message=0;}.message b=1;"+shut(8))
	marked(t, api.ErrSyntax, open(7)+"message @{")
	accepts(t, head+strings.Repeat(open(8)+shut(8), 100))
}

// P4.1: what is nested too deeply is told at its identifier, which may be a
// keyword; any other token in the place of that is not allowed there.
func TestDepthWithoutIdentifier(t *testing.T) {
	open := func(count int) string { return counted("message M%{", "", count) }
	for _, before := range []string{open(8), "message A{}" + open(8), open(8) + "a b=1;enum E{}oneof o{}", open(7) + "message A{}message B{", open(8) + "}}}" + open(3)} {
		for _, gap := range []string{" ", "/**/", " // message M\n"} {
			marked(t, api.ErrSyntax, before+"message"+gap+"@")
			for _, k := range alphabet() {
				want := api.ErrSyntax
				if text.IsIdent(k) {
					want = api.ErrDeep
				}
				for _, after := range []string{"", "{}", " M{}", ";", " message N{"} {
					marked(t, want, before+"message"+gap+"@"+k+after)
				}
			}
		}
	}
	// Where it is not too deep, no identifier is the same error.
	for deep := range 8 {
		for _, k := range []string{"{}", "5", "'M'", ".M{}", "", "}", "=1;"} {
			marked(t, api.ErrSyntax, open(deep)+"message @"+k)
		}
	}
}
