package build_test

import (
	"fmt"
	"strings"
	"testing"

	"signetry/api"
	"signetry/build"
)

// P9.1: files by their paths, with their imports as written, at no offset.
func TestFiles(t *testing.T) {
	s := built(t, `b: import"z";import public"c.x";import"a";`, "z: package z;", "c.x: package a.b;", `a: import public"z";`)
	tells(t, s,
		"file a", "a imports z publicly",
		"file b", "b imports z", "b imports c.x publicly", "b imports a",
		"file c.x a.b",
		"file z z")
	for _, f := range s.Files {
		for _, d := range f.Imports {
			if d.At != 0 {
				t.Errorf("%s imports %s at %d", f.Path, d.Path, d.At)
			}
		}
	}
	// Bytewise: a capital letter comes ahead of a small one, a shorter path ahead
	// of a longer one.
	tells(t, built(t, "a:", "B:", "a.a:", "a-:", "aa:", "_:", "1:"),
		"file 1", "file B", "file _", "file a", "file a-", "file a.a", "file aa")
}

// P9.1: full names, of a package with no name, with one, and with several ones, of
// what is in messages and what is not, with the path of the file.
func TestNames(t *testing.T) {
	const body = "message M{message N{message O{}enum F{Z=0;}}enum E{Z=0;}}enum E{Z=0;}service S{}"
	tells(t, built(t, "a: "+body),
		"file a",
		"message M of a", "message M.N of a", "message M.N.O of a",
		"enum E of a", "E Z 0", "enum M.E of a", "M.E Z 0", "enum M.N.F of a", "M.N.F Z 0",
		"service S of a")
	tells(t, built(t, "b: package p.q_1.R;"+body, "a: package p;"+body),
		"file a p", "file b p.q_1.R",
		"message p.M of a", "message p.M.N of a", "message p.M.N.O of a",
		"message p.q_1.R.M of b", "message p.q_1.R.M.N of b", "message p.q_1.R.M.N.O of b",
		"enum p.E of a", "p.E Z 0", "enum p.M.E of a", "p.M.E Z 0", "enum p.M.N.F of a", "p.M.N.F Z 0",
		"enum p.q_1.R.E of b", "p.q_1.R.E Z 0", "enum p.q_1.R.M.E of b", "p.q_1.R.M.E Z 0", "enum p.q_1.R.M.N.F of b", "p.q_1.R.M.N.F Z 0",
		"service p.S of a", "service p.q_1.R.S of b")
}

// P9.1: the lists of a set by full names, bytewise, not as written.
func TestOrderOfNames(t *testing.T) {
	tells(t, built(t,
		"b: message b{}message _{}message B1{}enum z{Z=0;}service s{}service S{}service S_{}",
		"a: message b1{}message B{message A{}}message a{message a{}}message a_{}message A{}enum y{Z=0;}enum Z{Z=0;}service r{}"),
		"file a", "file b",
		"message A of a", "message B of a", "message B.A of a", "message B1 of b", "message _ of b",
		"message a of a", "message a.a of a", "message a_ of a", "message b of b", "message b1 of a",
		"enum Z of a", "Z Z 0", "enum y of a", "y Z 0", "enum z of b", "z Z 0",
		"service S of b", "service S_ of b", "service r of a", "service s of b")
}

// P9.1: fields by their numbers, ranges by their first ones, reserved names in
// order; oneofs as written.
func TestOrderInMessages(t *testing.T) {
	s := built(t, `a: message M{reserved 70 to 80,5;int32 z=536870911;oneof y{int32 w=9;int32 v=3;}reserved"q","_","Q";int32 a=18999;oneof x{int32 u=1;}reserved 20000 to 536870910;reserved 6,8 to 8;reserved"p","q1";int32 b=7;}`)
	tells(t, s,
		"file a", "message M of a",
		"M 1 u u opt int32 in 1",
		"M 3 v v opt int32 in 0",
		"M 7 b b one int32",
		"M 9 w w opt int32 in 0",
		"M 18999 a a one int32",
		"M 536870911 z z one int32",
		"M oneof y", "M oneof x",
		"M reserved 5 to 5", "M reserved 6 to 6", "M reserved 8 to 8", "M reserved 70 to 80", "M reserved 20000 to 536870910",
		"M reserved Q", "M reserved _", "M reserved p", "M reserved q", "M reserved q1")
	fields(t, built(t, "a: message M{reserved 10 to max;reserved 9;}"), "M",
		"reserved 9 to 9", "reserved 10 to 536870911")
}

// P9.1: values of enums as written, ranges by their first numbers, reserved names
// in order.
func TestOrderInEnums(t *testing.T) {
	tells(t, built(t, `a: enum E{Z=0;reserved 7 to max,-1;P=5;reserved"q","p";A=-2147483648;reserved-9 to-7,6;N=-2;reserved"_";B=2;}`),
		"file a", "enum E of a",
		"E Z 0", "E P 5", "E A -2147483648", "E N -2", "E B 2",
		"E reserved -9 to -7", "E reserved -1 to -1", "E reserved 6 to 6", "E reserved 7 to 2147483647",
		"E reserved _", "E reserved p", "E reserved q")
	tells(t, built(t, `a: enum E{Z=-0;Y=2147483647;X=-1;reserved-2147483648 to-2147483647,1 to 2147483646;}`),
		"file a", "enum E of a",
		"E Z 0", "E Y 2147483647", "E X -1",
		"E reserved -2147483648 to -2147483647", "E reserved 1 to 2147483646")
}

// P9.1: methods as written.
func TestOrderOfMethods(t *testing.T) {
	tells(t, built(t, `a: package p;service S{rpc b(M)returns(p.M.N);rpc a(.p.M.N)returns(M.N){}rpc _(p.M)returns(M);}message M{message N{}}`),
		"file a p", "message p.M of a", "message p.M.N of a", "service p.S of a",
		"p.S b p.M p.M.N", "p.S a p.M.N p.M.N", "p.S _ p.M p.M")
}

// P9.1: each type with each card: only a message that is One becomes Opt.
func TestTypesAndCards(t *testing.T) {
	types := strings.Fields("double float int64 uint64 int32 fixed64 fixed32 bool string bytes uint32 sfixed32 sfixed64 sint32 sint64")
	for _, name := range append(types, "N", "E", ".p.N", ".p.E") {
		told, one := name, "one"
		switch name {
		case "N", ".p.N":
			told, one = "message p.N", "opt"
		case "E", ".p.E":
			told = "enum p.E"
		}
		s := built(t, fmt.Sprintf("a: package p;message N{}enum E{Z=0;}message M{%[1]s a=1;optional %[1]s b=2;repeated %[1]s c=3;map<bool,%[1]s>d=4;oneof o{%[1]s e=5;}}", name))
		fields(t, s, "p.M",
			"1 a a "+one+" "+told,
			"2 b b opt "+told,
			"3 c c rep "+told,
			"4 d d map by bool "+told,
			"5 e e opt "+told+" in 0",
			"oneof o")
	}
}

// P9.1: maps of each key.
func TestKeysOfMaps(t *testing.T) {
	for _, key := range strings.Fields("int64 uint64 int32 fixed64 fixed32 bool string uint32 sfixed32 sfixed64 sint32 sint64") {
		s := built(t, "a: message M{map<"+key+",bytes>a=1;map<"+key+",M>b=2;}")
		fields(t, s, "M", "1 a a map by "+key+" bytes", "2 b b map by "+key+" message M")
	}
	for _, key := range strings.Fields("double float bytes M E") {
		failsAt(t, api.ErrKind, "a", "a: enum E{Z=0;}message M{map<^"+key+",bytes>a=1;}")
	}
}

// P9.1: keys from json_name, and from the name if there is none.
func TestKeysOfFields(t *testing.T) {
	s := built(t, `a: message M{int32 foo_bar=1;int32 _foo_bar_2_x=2;int32 a=3[json_name="b"];int32 b=4[json_name="a"];int32 Foo=5;int32 c_d=6[json_name="c_d"];int32 e_f=7[json_name=""];int32 _g=8;int32 h_=9;int32 a_b=10[json_name="0"];int32 x__y=11;int32 n=12[json_name="_"];}`)
	fields(t, s, "M",
		"1 foo_bar fooBar one int32",
		"2 _foo_bar_2_x FooBar2X one int32",
		"3 a b one int32",
		"4 b a one int32",
		"5 Foo Foo one int32",
		"6 c_d c_d one int32",
		"7 e_f eF one int32",
		"8 _g G one int32",
		"9 h_ h one int32",
		"10 a_b 0 one int32",
		"11 x__y xY one int32",
		"12 n _ one int32")
}

// P9.1: what names mean, from the scope outwards: further in hides further out.
func TestNamesFurtherInAndOut(t *testing.T) {
	s := built(t, `a: package p.q;
		message N{}
		message M{
			message N{
				message N{N a=1;.p.q.N b=2;p.q.N c=3;q.N d=4;M e=5;M.N f=6;M.N.N g=7;N.N h=8;}
				N a=1;.p.q.N b=2;M.N c=3;N.N d=4;E e=5;M.E f=6;
			}
			enum E{Z=0;}
			N a=1;.p.q.N b=2;M c=3;p.q.M.N.N d=4;N.N e=5;E f=6;F g=7;q.F h=8;
		}
		enum E{Z=0;}
		enum F{Z=0;}
		message O{E a=1;M.E b=2;N c=3;M.N d=4;}`)
	N, MN, MNN, ME, E, F := "message p.q.N", "message p.q.M.N", "message p.q.M.N.N", "enum p.q.M.E", "enum p.q.E", "enum p.q.F"
	fields(t, s, "p.q.M.N.N", "1 a a opt "+MNN, "2 b b opt "+N, "3 c c opt "+N, "4 d d opt "+N, "5 e e opt message p.q.M", "6 f f opt "+MN, "7 g g opt "+MNN, "8 h h opt "+MNN)
	fields(t, s, "p.q.M.N", "1 a a opt "+MNN, "2 b b opt "+N, "3 c c opt "+MN, "4 d d opt "+MNN, "5 e e one "+ME, "6 f f one "+ME)
	fields(t, s, "p.q.M", "1 a a opt "+MN, "2 b b opt "+N, "3 c c opt message p.q.M", "4 d d opt "+MNN, "5 e e opt "+MNN, "6 f f one "+ME, "7 g g one "+F, "8 h h one "+F)
	fields(t, s, "p.q.O", "1 a a one "+E, "2 b b one "+ME, "3 c c opt "+N, "4 d d opt "+MN)
}

// P9.1: N.N in N: the first name that resolves as a whole counts, so that nothing
// inside of the nearest N hides what is further out.
func TestWholeNames(t *testing.T) {
	s := built(t, "a: message A{message B{}}message C{message A{}A.B a=1;A b=2;}")
	fields(t, s, "C", "1 a a opt message A.B", "2 b b opt message C.A")
}

// P9.1: the names of types are those of types, whatever is declared; with a
// period, or as names of methods, they are not.
func TestNamesOfTypes(t *testing.T) {
	s := built(t, "a: message int32{}message M{int32 a=1;.int32 b=2;map<int32,.int32>c=3;M.int32 d=4;message int32{}bytes e=5;}enum bytes{Z=0;}service S{rpc F(int32)returns(.int32);}")
	fields(t, s, "M", "1 a a one int32", "2 b b opt message int32", "3 c c map by int32 message int32", "4 d d opt message M.int32", "5 e e one bytes")
	fields(t, s, "S", "F int32 int32")
}

// P9.1: what other files declare, as far as it is seen: imported, or imported
// publicly by what is imported.
func TestOtherFiles(t *testing.T) {
	s := built(t,
		`a: package p;import"b";message M{N a=1;q.O b=2;.p.q.O c=3;r.E d=4;}service S{rpc F(N)returns(q.O);}`,
		`b: package p;import public"c";message N{q.O a=1;r.E b=2;}`,
		`c: package p.q;import public"d";message O{r.E a=1;}`,
		"d: package p.r;enum E{Z=0;}",
		"e: package q;message O{}",
		`f: import"e";package p;message P{q.O a=1;}message Q{.q.O b=2;}`,
		`g: import"e";import"c";package p;message R{q.O a=1;.q.O b=2;p.q.O c=3;}service T{rpc F(q.O)returns(.q.O);}`)
	fields(t, s, "p.M", "1 a a opt message p.N", "2 b b opt message p.q.O", "3 c c opt message p.q.O", "4 d d one enum p.r.E")
	fields(t, s, "p.N", "1 a a opt message p.q.O", "2 b b one enum p.r.E")
	fields(t, s, "p.q.O", "1 a a one enum p.r.E")
	fields(t, s, "p.P", "1 a a opt message q.O")
	fields(t, s, "p.Q", "2 b b opt message q.O")
	fields(t, s, "p.R", "1 a a opt message p.q.O", "2 b b opt message q.O", "3 c c opt message p.q.O")
	fields(t, s, "p.S", "F p.N p.q.O")
	fields(t, s, "p.T", "F p.q.O q.O")
	if e := build.Check(s); e != api.OK {
		t.Error(e)
	}
}

// P9.1: what is not seen cannot be meant: behind an import that is not public, or
// in a file that imports this one.
func TestWhatIsNotSeen(t *testing.T) {
	failsAt(t, api.ErrName, "a b c", `a: import"b";message M{^O a=1;}`, `b: import"c";`, "c: message O{}")
	failsAt(t, api.ErrName, "a b", `a: import"b";message M{}`, "b: message O{^M a=1;}")
	failsAt(t, api.ErrName, "a b c", `a: import"b";message M{^.O a=1;}`, `b: import"c";`, "c: message O{}")
}

// P9.1: full names of 128 bytes, in all places.
func TestLongNames(t *testing.T) {
	long := strings.Repeat("x", 32)
	pkg := strings.Repeat(long[:31]+".", 3) + long[:30]
	full := pkg + "." + long[:1]
	if len(full) != 128 {
		t.Fatal(len(full))
	}
	s := built(t, "a: package "+pkg+";message x{"+full+" a=1;x b=2;}service y{rpc "+long+"("+full+")returns(x);}enum z{"+long+"=0;}")
	fields(t, s, full, "1 a a opt message "+full, "2 b b opt message "+full)
	fields(t, s, pkg+".y", long+" "+full+" "+full)
	if e := build.Check(s); e != api.OK {
		t.Error(e)
	}
}

// P9.1: as much as there may be.
func TestMuch(t *testing.T) {
	s := built(t,
		"a: "+many(128, "message M#{}")+many(128, "enum E#{Z=0;}")+many(64, "service S#{}"),
		"b: "+many(64, "service T#{}"))
	if e := build.Check(s); e != api.OK || len(s.Msgs) != 128 || len(s.Enums) != 128 || len(s.Svcs) != 128 {
		t.Errorf("%d: %d, %d, %d", e, len(s.Msgs), len(s.Enums), len(s.Svcs))
	}
	var text strings.Builder
	for i := range 64 {
		fmt.Fprintf(&text, "int32 f%d=%d;", i, 64-i)
	}
	s = built(t, "a: message M{"+text.String()+"}")
	if e := build.Check(s); e != api.OK || len(s.Msgs[0].Fields) != 64 || s.Msgs[0].Fields[0].Name != "f63" {
		t.Errorf("%d: %v", e, told(s))
	}
	s = built(t, "a: "+nested("message M{M a=1;.M.M b=2;}", "M", "M", "M", "M", "M", "M", "M"))
	fields(t, s, "M.M.M.M.M.M.M.M", "1 a a opt message M.M.M.M.M.M.M.M", "2 b b opt message M.M")
	if e := build.Check(s); e != api.OK {
		t.Error(e)
	}
}
