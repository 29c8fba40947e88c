package descpb_test

import (
	"fmt"
	"strings"
	"testing"

	"signetry/api"
)

// names of types, by their numbers, but for those of messages and enums.
func basic() map[int]string {
	return map[int]string{
		1: "double", 2: "float", 3: "int64", 4: "uint64", 5: "int32", 6: "fixed64", 7: "fixed32", 8: "bool", 9: "string",
		12: "bytes", 13: "uint32", 15: "sfixed32", 16: "sfixed64", 17: "sint32", 18: "sint64",
	}
}

// P10.1, P10.2: each type with each card, in a oneof and not.
func TestFields(t *testing.T) {
	for n, name := range basic() {
		encodesMsg(t, name+" a=1;", fmt.Sprintf(`2{1"a" 3:1 4:1 5:%d 10"a"}`, n), "", "")
		encodesMsg(t, "optional "+name+" a=1;", fmt.Sprintf(`2{1"a" 3:1 4:1 5:%d 10"a" 17:1}`, n), "", "")
		encodesMsg(t, "repeated "+name+" a=1;", fmt.Sprintf(`2{1"a" 3:1 4:3 5:%d 10"a"}`, n), "", "")
		encodesMsg(t, "oneof o{"+name+" a=1;}", fmt.Sprintf(`2{1"a" 3:1 4:1 5:%d 9:0 10"a"} 8{1"o"}`, n), "", "")
	}
	const enum, beside = "enum E{Z=0;}", `5{1"E" 2{1"Z" 2:0}}`
	encodesMsg(t, "E a=1;", `2{1"a" 3:1 4:1 5:14 6".E" 10"a"}`, enum, beside)
	encodesMsg(t, "optional E a=1;", `2{1"a" 3:1 4:1 5:14 6".E" 10"a" 17:1}`, enum, beside)
	encodesMsg(t, "repeated E a=1;", `2{1"a" 3:1 4:3 5:14 6".E" 10"a"}`, enum, beside)
	encodesMsg(t, "oneof o{E a=1;}", `2{1"a" 3:1 4:1 5:14 6".E" 9:0 10"a"} 8{1"o"}`, enum, beside)
	encodesMsg(t, "M a=1;", `2{1"a" 3:1 4:1 5:11 6".M" 10"a"}`, "", "")
	encodesMsg(t, "optional M a=1;", `2{1"a" 3:1 4:1 5:11 6".M" 10"a"}`, "", "")
	encodesMsg(t, "repeated M a=1;", `2{1"a" 3:1 4:3 5:11 6".M" 10"a"}`, "", "")
	encodesMsg(t, "oneof o{M a=1;}", `2{1"a" 3:1 4:1 5:11 6".M" 9:0 10"a"} 8{1"o"}`, "", "")
}

// P10.1, P10.2: numbers, names and keys of fields, and what they refer to.
func TestFieldsByNumbers(t *testing.T) {
	encodesMsg(t, "bool b=536870911;bool a=128;bool c=127;bool d=1;",
		`2{1"d" 3:1 4:1 5:8 10"d"} 2{1"c" 3:127 4:1 5:8 10"c"} 2{1"a" 3:128 4:1 5:8 10"a"} 2{1"b" 3:536870911 4:1 5:8 10"b"}`, "", "")
	encodesMsg(t, `bool foo_bar=1;bool _a=2[json_name="1x"];bool B=3[json_name="foo_bar"];`,
		`2{1"foo_bar" 3:1 4:1 5:8 10"fooBar"} 2{1"_a" 3:2 4:1 5:8 10"1x"} 2{1"B" 3:3 4:1 5:8 10"foo_bar"}`, "", "")
	encodes(t, `1{1"a" 2"p.q" 3"b" 4{1"M"
			2{1"a" 3:1 4:1 5:11 6".p.q.M.N" 10"a"} 2{1"b" 3:2 4:1 5:14 6".p.q.M.N.E" 10"b"} 2{1"c" 3:3 4:3 5:11 6".r.N" 10"c"} 2{1"d" 3:4 4:1 5:14 6".r.N.E" 10"d"}
			3{1"N" 4{1"E" 2{1"Z" 2:0}}}} 12"proto3"}
		1{1"b" 2"r" 4{1"N" 4{1"E" 2{1"Z" 2:0}}} 12"proto3"}`,
		`a:package p.q;import"b";message M{N a=1;N.E b=2;repeated r.N c=3;.r.N.E d=4;message N{enum E{Z=0;}}}`,
		`b:package r;message N{enum E{Z=0;}}`)
	encodesMsg(t, func() (s string) {
		for i := range 64 {
			s += fmt.Sprintf("bool f%d=%d;", i, i+1)
		}
		return s
	}(), func() (s string) {
		for i := range 64 {
			s += fmt.Sprintf(`2{1"f%d" 3:%d 4:1 5:8 10"f%d"}`, i, i+1, i)
		}
		return s
	}(), "", "")
}

// P10.1, P10.2: oneofs as written, and fields in them; optional fields beside them.
func TestOneofs(t *testing.T) {
	encodesMsg(t, "bool z=9;oneof o{bool b=3;M a=1;}optional bool c=2;oneof a_b{string d=7;E e=5;bytes f=6;}optional M g=8;oneof O{E h=4;}",
		`2{1"a" 3:1 4:1 5:11 6".M" 9:0 10"a"}
		2{1"c" 3:2 4:1 5:8 10"c" 17:1}
		2{1"b" 3:3 4:1 5:8 9:0 10"b"}
		2{1"h" 3:4 4:1 5:14 6".E" 9:2 10"h"}
		2{1"e" 3:5 4:1 5:14 6".E" 9:1 10"e"}
		2{1"f" 3:6 4:1 5:12 9:1 10"f"}
		2{1"d" 3:7 4:1 5:9 9:1 10"d"}
		2{1"g" 3:8 4:1 5:11 6".M" 10"g"}
		2{1"z" 3:9 4:1 5:8 10"z"}
		8{1"o"} 8{1"a_b"} 8{1"O"}`, "enum E{Z=0;}", `5{1"E" 2{1"Z" 2:0}}`)
	text, want, oneofs := "", "", ""
	for i := range 16 {
		text += fmt.Sprintf("oneof o%d{bool f%d=%d;}", i, i, i+1)
		want += fmt.Sprintf(`2{1"f%d" 3:%d 4:1 5:8 9:%d 10"f%d"}`, i, i+1, i, i)
		oneofs += fmt.Sprintf(`8{1"o%d"}`, i)
	}
	encodesMsg(t, text, want+oneofs, "", "")
}

// P10.1, P10.2: ranges of messages with the number behind their last one; names.
func TestReserved(t *testing.T) {
	encodesMsg(t, "reserved 1;", `9{1:1 2:2}`, "", "")
	encodesMsg(t, "reserved 5 to 9,2,536870911,127 to 128,19000 to 19999;",
		`9{1:2 2:3} 9{1:5 2:10} 9{1:127 2:129} 9{1:19000 2:20000} 9{1:536870911 2:536870912}`, "", "")
	encodesMsg(t, "reserved 1 to max;", `9{1:1 2:536870912}`, "", "")
	encodesMsg(t, `reserved"b";reserved 7;reserved"a","B";`, `9{1:7 2:8} 10"B" 10"a" 10"b"`, "", "")
	encodesMsg(t, `bool a=1;oneof o{bool b=2;}map<bool,bool>c=3;message N{}enum E{Z=0;}reserved 4 to 5,7;reserved"y","x";`,
		`2{1"a" 3:1 4:1 5:8 10"a"} 2{1"b" 3:2 4:1 5:8 9:0 10"b"} 2{1"c" 3:3 4:3 5:11 6".M.3Entry" 10"c"}
		3{1"N"} 3{1"3Entry" 2{1"key" 3:1 4:1 5:8} 2{1"value" 3:2 4:1 5:8} 7{7:1}}
		4{1"E" 2{1"Z" 2:0}} 8{1"o"} 9{1:4 2:6} 9{1:7 2:8} 10"x" 10"y"`, "", "")
	ranges, want := "", ""
	for i := range 64 {
		ranges, want = ranges+fmt.Sprintf("reserved %d;", 10*i+1), want+fmt.Sprintf("9{1:%d 2:%d}", 10*i+1, 10*i+2)
	}
	encodesMsg(t, ranges+many(64, `reserved"n#";`), want+many(64, `10"n#"`), "", "")
}

// P10.1, P10.2: maps of each key and each type, with their entries.
func TestMaps(t *testing.T) {
	types := basic()
	types[11], types[14] = "M", "E"
	for key, keyName := range basic() {
		if strings.Contains(" double float bytes ", " "+keyName+" ") {
			continue
		}
		for n, name := range types {
			ref := map[int]string{11: ` 6".M"`, 14: ` 6".E"`}[n]
			encodesMsg(t, fmt.Sprintf("map<%s,%s>a_b=7;", keyName, name),
				fmt.Sprintf(`2{1"a_b" 3:7 4:3 5:11 6".M.7Entry" 10"aB"} 3{1"7Entry" 2{1"key" 3:1 4:1 5:%d} 2{1"value" 3:2 4:1 5:%d%s} 7{7:1}}`, key, n, ref),
				"enum E{Z=0;}", `5{1"E" 2{1"Z" 2:0}}`)
		}
	}
}

// P10.1, P10.2: the entries of several maps are behind the messages that are nested,
// by the numbers of the fields, and have these in their names.
func TestEntries(t *testing.T) {
	entry := func(name, types string) string {
		key, value, _ := strings.Cut(types, ",")
		return fmt.Sprintf(`3{1"%sEntry" 2{1"key" 3:1 4:1 5:%s} 2{1"value" 3:2 4:1 5:%s} 7{7:1}} `, name, key, value)
	}
	encodesFile(t, "package p.q;message M{map<string,N>key=536870911;map<bool,.p.q.E>value=9;message N{map<int32,M>a=1;}bool b=8;map<int64,M>a=10;message A{}enum E{Z=0;}}enum E{Z=0;}",
		`2"p.q" 4{1"M"
			2{1"b" 3:8 4:1 5:8 10"b"}
			2{1"value" 3:9 4:3 5:11 6".p.q.M.9Entry" 10"value"}
			2{1"a" 3:10 4:3 5:11 6".p.q.M.10Entry" 10"a"}
			2{1"key" 3:536870911 4:3 5:11 6".p.q.M.536870911Entry" 10"key"}
			3{1"A"}
			3{1"N" 2{1"a" 3:1 4:3 5:11 6".p.q.M.N.1Entry" 10"a"} `+entry("1", `5,11 6".p.q.M"`)+`} `+
			entry("9", `8,14 6".p.q.E"`)+entry("10", `3,11 6".p.q.M"`)+entry("536870911", `9,11 6".p.q.M.N"`)+`
			4{1"E" 2{1"Z" 2:0}}} 5{1"E" 2{1"Z" 2:0}}`)
	encodesFile(t, "message A{map<bool,B>a=1;}message B{map<bool,A>a=1;message A{}}",
		`4{1"A" 2{1"a" 3:1 4:3 5:11 6".A.1Entry" 10"a"} `+entry("1", `8,11 6".B"`)+`}
		4{1"B" 2{1"a" 3:1 4:3 5:11 6".B.1Entry" 10"a"} 3{1"A"} `+entry("1", `8,11 6".B.A"`)+`}`)
	text, fields, entries := "", "", ""
	for i := range 64 {
		text += fmt.Sprintf("map<bool,bool>f%d=%d;", i, 2*i+1)
		fields += fmt.Sprintf(`2{1"f%d" 3:%d 4:3 5:11 6".M.%dEntry" 10"f%d"}`, i, 2*i+1, 2*i+1, i)
		entries += entry(fmt.Sprint(2*i+1), "8,8")
	}
	encodesMsg(t, text, fields+entries, "", "")
	// The longest string that there is: that of an entry's full name.
	name := strings.Repeat("abcdefg.", 15) + "abcdef"
	encodes(t, `1{1"a" 2"`+name+`" 4{1"M" 2{1"a" 3:536870911 4:3 5:11 6".`+name+`.M.536870911Entry" 10"a"} `+entry("536870911", `9,11 6".`+name+`.M"`)+`} 12"proto3"}`,
		"a:package "+name+";message M{map<string,M>a=536870911;}")
}

// P10.1, P10.2: messages and enums in messages, as deep as they may be, with maps in
// the last one.
func TestNests(t *testing.T) {
	encodesFile(t, "message M{message B{message Y{}message X{}}message A{message B{}}enum F{Z=0;}enum E{Z=0;}}message N{message A{enum A{Z=0;}}}",
		`4{1"M" 3{1"A" 3{1"B"}} 3{1"B" 3{1"X"} 3{1"Y"}} 4{1"E" 2{1"Z" 2:0}} 4{1"F" 2{1"Z" 2:0}}} 4{1"N" 3{1"A" 4{1"A" 2{1"Z" 2:0}}}}`)
	for deep := 1; deep <= 8; deep++ {
		for _, pkg := range []string{"", "p", "p.q.r.s.t.u.v.w.x.y"} {
			text, want, all := "", "", []string{}
			for i := range deep {
				all = append(all, fmt.Sprint("M", i))
			}
			full := strings.TrimPrefix(pkg+"."+strings.Join(all, "."), ".")
			for i := range deep {
				text += fmt.Sprintf("message M%d{", i)
				want += fmt.Sprintf(`%d{1"M%d" `, map[bool]int{true: 4, false: 3}[i == 0], i)
			}
			text += "map<string,E>a=1;enum E{Z=0;}" + strings.Repeat("}", deep)
			want += `2{1"a" 3:1 4:3 5:11 6".` + full + `.1Entry" 10"a"} 3{1"1Entry" 2{1"key" 3:1 4:1 5:9} 2{1"value" 3:2 4:1 5:14 6".` + full + `.E"} 7{7:1}} 4{1"E" 2{1"Z" 2:0}}` + strings.Repeat("}", deep)
			if pkg != "" {
				text, want = "package "+pkg+";"+text, `2"`+pkg+`" `+want
			}
			encodesFile(t, text, want)
		}
	}
	// What is declared further in comes first in a set, if its file is an earlier one.
	is(t, api.Set{
		Files: []api.File{{Path: "a"}, {Path: "b"}},
		Msgs:  []api.Msg{{Path: "b", Name: "A"}, {Path: "b", Name: "A.Z"}, {Path: "a", Name: "B"}, {Path: "a", Name: "B.A"}, {Path: "b", Name: "B1"}},
	}, written(`1{1"a" 4{1"B" 3{1"A"}} 12"proto3"} 1{1"b" 4{1"A" 3{1"Z"}} 4{1"B1"} 12"proto3"}`))
}

// P10.1: an order that is that of full names, and not that of last names.
func TestOrderOfFullNames(t *testing.T) {
	encodesFile(t, "message A_{}message A{message A{}}message A0{}message AA{}",
		`4{1"A" 3{1"A"}} 4{1"A0"} 4{1"AA"} 4{1"A_"}`)
}
