package descpb_test

import (
	"bytes"
	"fmt"
	"strings"
	"testing"

	"signetry/api"
	"signetry/descpb"
	"signetry/wire"
)

// P10.1, P10.2: the empty set, and files that declare nothing.
func TestFiles(t *testing.T) {
	is(t, api.Set{Files: []api.File{}, Msgs: []api.Msg{}, Enums: []api.Enum{}, Svcs: []api.Svc{}}, []byte{})
	encodes(t, `1{1"a" 12"proto3"}`, "a:")
	encodes(t, `1{1"a" 2"p" 12"proto3"}`, "a:package p;")
	encodes(t, `1{1"a/b-c_d.proto" 2"p.q_1.R" 12"proto3"}`, "a/b-c_d.proto:package p.q_1.R;")
	encodes(t, `1{1"A" 12"proto3"} 1{1"a" 2"p" 12"proto3"} 1{1"a.b" 12"proto3"} 1{1"b" 2"p" 12"proto3"}`,
		"b:package p;", "a.b:", "A:", "a:package p;")
	long := strings.Repeat("a", 64)
	encodes(t, `1{1"`+long+`" 2"`+strings.Repeat("abcdefg.", 15)+`abcdefgh" 12"proto3"}`,
		long+":package "+strings.Repeat("abcdefg.", 15)+"abcdefgh;")
}

// P10.1, P10.2: imports are encoded as written, and public ones by their indices.
func TestImports(t *testing.T) {
	others := []string{"b:", "c:", "d:"}
	const rest = ` 1{1"b" 12"proto3"} 1{1"c" 12"proto3"} 1{1"d" 12"proto3"}`
	for _, c := range [][2]string{
		{`import"b";`, `3"b"`},
		{`import public"b";`, `3"b" 10:0`},
		{`import"b";import"c";import"d";`, `3"b" 3"c" 3"d"`},
		{`import"d";import"b";import"c";`, `3"d" 3"b" 3"c"`},
		{`import public"d";import"b";import"c";`, `3"d" 3"b" 3"c" 10:0`},
		{`import"d";import public"b";import"c";`, `3"d" 3"b" 3"c" 10:1`},
		{`import"d";import"b";import public"c";`, `3"d" 3"b" 3"c" 10:2`},
		{`import public"d";import"b";import public"c";`, `3"d" 3"b" 3"c" 10:0 10:2`},
		{`import public"d";import public"b";import public"c";`, `3"d" 3"b" 3"c" 10:0 10:1 10:2`},
		{`package p;import public"c";`, `2"p" 3"c" 10:0`},
		{`import public"c";message M{}enum E{Z=0;}service S{}`, `3"c" 4{1"M"} 5{1"E" 2{1"Z" 2:0}} 6{1"S"} 10:0`},
	} {
		encodes(t, `1{1"a" `+c[1]+` 12"proto3"}`+rest, append([]string{"a:" + c[0]}, others...)...)
	}
	lines, want, imports, indices := []string{}, "", "", ""
	for i := range 16 {
		text, path := "", fmt.Sprintf("f%02d", i)
		for k := range i {
			text += fmt.Sprintf("import %s\"f%02d\";", []string{"", "public "}[(i+k)%2], k)
		}
		want += fmt.Sprintf(`1{1%q %s`, path, imports)
		for k := range i {
			if (i+k)%2 == 1 {
				indices += fmt.Sprintf("10:%d ", k)
			}
		}
		want += indices + `12"proto3"}`
		lines, imports, indices = append(lines, path+":"+text), imports+fmt.Sprintf("3%q ", path), ""
	}
	encodes(t, want, lines...)
}

// P10.1, P10.2: messages, enums and services are in the order of their names, each
// kind for itself, and with their last names.
func TestDeclarations(t *testing.T) {
	encodesFile(t, "message M{}", `4{1"M"}`)
	encodesFile(t, "package p.q;message M{}enum E{Z=0;}service S{}", `2"p.q" 4{1"M"} 5{1"E" 2{1"Z" 2:0}} 6{1"S"}`)
	encodesFile(t, "service S{}service R{}enum F{Z=0;}enum E{Z=0;}message b{}message N{}message M_1{}message M{}",
		`4{1"M"} 4{1"M_1"} 4{1"N"} 4{1"b"} 5{1"E" 2{1"Z" 2:0}} 5{1"F" 2{1"Z" 2:0}} 6{1"R"} 6{1"S"}`)
	long := strings.Repeat("x", 32)
	encodesFile(t, "message "+long+"{}", `4{1"`+long+`"}`)
	s := api.Set{Files: []api.File{{Path: "a"}}}
	for i := range 128 {
		s.Msgs = append(s.Msgs, api.Msg{Path: "a", Name: fmt.Sprintf("M%03d", i)})
		s.Enums = append(s.Enums, api.Enum{Path: "a", Name: fmt.Sprintf("E%03d", i), Values: []api.Value{{Name: "Z"}}})
		s.Svcs = append(s.Svcs, api.Svc{Path: "a", Name: fmt.Sprintf("S%03d", i)})
	}
	is(t, s, written(`1{1"a" `+many(128, `4{1"M#"}`)+many(128, `5{1"E#" 2{1"Z" 2:0}}`)+many(128, `6{1"S#"}`)+`12"proto3"}`))
}

// P10.1, P10.2: what is declared in several files, and in packages that are called
// like messages of other files.
func TestPlaces(t *testing.T) {
	encodes(t, `1{1"a" 2"p" 4{1"B"} 4{1"D"} 5{1"E" 2{1"Z" 2:0}} 6{1"S"} 12"proto3"}
		1{1"b" 2"p" 4{1"A"} 4{1"C"} 5{1"D1" 2{1"Z" 2:0}} 6{1"R"} 6{1"T"} 12"proto3"}
		1{1"c" 4{1"A"} 4{1"p_A"} 12"proto3"}`,
		"a:package p;message B{}message D{}enum E{Z=0;}service S{}",
		"b:package p;message A{}message C{}enum D1{Z=0;}service R{}service T{}",
		"c:message A{}message p_A{}")
	m := func(path, name string) api.Msg { return api.Msg{Path: path, Name: name} }
	e := func(path, name string) api.Enum {
		return api.Enum{Path: path, Name: name, Values: []api.Value{{Name: "Z"}}}
	}
	is(t, api.Set{
		Files: []api.File{{Path: "a", Package: "p"}, {Path: "b", Package: "p.M"}, {Path: "c", Package: "p"}, {Path: "d", Package: "p.M"}},
		Msgs:  []api.Msg{m("a", "p.M"), m("b", "p.M.A"), m("b", "p.M.A.C"), m("a", "p.M.B"), m("a", "p.M.B.A"), m("d", "p.M.D"), m("c", "p.N")},
		Enums: []api.Enum{e("a", "p.M.E"), e("b", "p.M.F"), e("d", "p.M.G")},
		Svcs:  []api.Svc{{Path: "b", Name: "p.M.S"}, {Path: "a", Name: "p.S"}},
	}, written(`
		1{1"a" 2"p" 4{1"M" 3{1"B" 3{1"A"}} 4{1"E" 2{1"Z" 2:0}}} 6{1"S"} 12"proto3"}
		1{1"b" 2"p.M" 4{1"A" 3{1"C"}} 5{1"F" 2{1"Z" 2:0}} 6{1"S"} 12"proto3"}
		1{1"c" 2"p" 4{1"N"} 12"proto3"}
		1{1"d" 2"p.M" 4{1"D"} 5{1"G" 2{1"Z" 2:0}} 12"proto3"}`))
}

// P10.1, P10.2: values of enums as written, with negative numbers; ranges with their
// last number; names.
func TestEnums(t *testing.T) {
	encodesFile(t, "enum E{B=0;A=2;C=1;D=127;F=128;G=2147483647;}",
		`5{1"E" 2{1"B" 2:0} 2{1"A" 2:2} 2{1"C" 2:1} 2{1"D" 2:127} 2{1"F" 2:128} 2{1"G" 2:2147483647}}`)
	encodesFile(t, "enum E{Z=0;A=-1;B=-2147483648;}", `5{1"E" 2{1"Z" 2:0} 2{1"A" 2:-1} 2{1"B" 2:-2147483648}}`)
	is(t, built(t, "a:enum E{Z=0;A=-1;}"), unhex(t, "0A 27 0A 01 61"+
		"2A 1A 0A 01 45 12 05 0A 01 5A 10 00 12 0E 0A 01 41 10 FF FF FF FF FF FF FF FF FF 01"+
		"62 06 70 72 6F 74 6F 33"))
	encodesFile(t, "enum E{Z=0;reserved 5;}", `5{1"E" 2{1"Z" 2:0} 4{1:5 2:5}}`)
	encodesFile(t, "enum E{Z=0;reserved 7 to max,5,-2147483648 to -3,-1,1 to 2;}",
		`5{1"E" 2{1"Z" 2:0} 4{1:-2147483648 2:-3} 4{1:-1 2:-1} 4{1:1 2:2} 4{1:5 2:5} 4{1:7 2:2147483647}}`)
	encodesFile(t, `enum E{Z=0;reserved"b","a";reserved 3;reserved"B";}`, `5{1"E" 2{1"Z" 2:0} 4{1:3 2:3} 5"B" 5"a" 5"b"}`)
	encodesFile(t, "enum E{Z=0;}enum F{Y=0;reserved 1;}", `5{1"E" 2{1"Z" 2:0}} 5{1"F" 2{1"Y" 2:0} 4{1:1 2:1}}`)
	values, want := "Z=0;", `2{1"Z" 2:0}`
	for i := range 63 {
		values, want = values+fmt.Sprintf("A%d=%d;", i, 100-3*i), want+fmt.Sprintf(`2{1"A%d" 2:%d}`, i, 100-3*i)
	}
	encodesFile(t, "enum E{"+values+"}", `5{1"E" `+want+"}")
}

// P10.1, P10.2: services.
func TestServices(t *testing.T) {
	encodesFile(t, "package p;message M{message N{}}service S{}service T{rpc b(M)returns(M.N);rpc a(.p.M.N)returns(.p.M);}",
		`2"p" 4{1"M" 3{1"N"}} 6{1"S"} 6{1"T" 2{1"b" 2".p.M" 3".p.M.N"} 2{1"a" 2".p.M.N" 3".p.M"}}`)
	encodes(t, `1{1"a" 3"b" 6{1"S" 2{1"F" 2".M" 3".q.M"}} 12"proto3"} 1{1"b" 3"c" 4{1"M"} 10:0 12"proto3"} 1{1"c" 2"q" 4{1"M"} 12"proto3"}`,
		`a:import"b";service S{rpc F(M)returns(q.M);}`, `b:import public"c";message M{}`, `c:package q;message M{}`)
	encodesFile(t, "message M{}service S{"+many(64, "rpc F#(M)returns(M);")+"}",
		`4{1"M"} 6{1"S" `+many(64, `2{1"F#" 2".M" 3".M"}`)+"}")
}

// P10.6: the records of a set are those of its files, and what is in one does not
// depend on the others.
func TestEachFileIsARecord(t *testing.T) {
	lines := []string{
		`a:package p;import"b";message M{N n=1;map<string,q.E>m=2;}service S{rpc F(M)returns(N);}`,
		`b:package p;import public"c";message N{enum E{Z=0;}}`,
		`c:package q;enum E{Z=0;}message M{optional E e=1;}`,
	}
	all, e := descpb.Encode(built(t, lines...))
	l, eSplit := wire.Split(all)
	if e != api.OK || eSplit != api.OK || len(l) != 3 {
		t.Fatal(e, eSplit, len(l))
	}
	for i, r := range l {
		if r.Num != 1 || r.Wire != 2 {
			t.Errorf("record %d has number %d and type %d", i, r.Num, r.Wire)
		}
		own, e := descpb.Encode(built(t, lines[i:]...))
		if e != api.OK || !bytes.HasPrefix(own, r.Raw) {
			t.Errorf("%d: %x does not begin with %x", e, own, r.Raw)
		}
	}
}
