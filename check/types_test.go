package check_test

import (
	"strings"
	"testing"
)

// basic is the names of the types that are no messages and no enums.
func basic() []string {
	return strings.Fields("int32 int64 uint32 uint64 bool sint32 sint64 fixed32 sfixed32 fixed64 sfixed64 float double string bytes")
}

// P8.1: the names of types need no declaration, and no other declaration has
// their names.
func TestBasicTypes(t *testing.T) {
	for _, name := range basic() {
		marked(t, "a: message M{"+name+" a=1;repeated "+name+" b=2;map<int32,"+name+">c=3;oneof o{"+name+" d=4;}optional "+name+" e=5;}")
		marked(t, "a: message M{^Name^."+name+" a=1;^Name^M."+name+" b=2;"+name+" c=3;map<int32,"+name+">d=4;}")
		marked(t, "a: message M{."+name+" a=1;"+name+" b=2;}message "+name+"{}")
		marked(t, "a: message M{^Kind^."+name+" a=1;"+name+" b=2;}service "+name+"{}")
		marked(t, "a: message M{message "+name+"{}^Name^."+name+" a=1;"+name+" b=2;M."+name+" c=3;.M."+name+" d=4;}")
	}
	marked(t, "a: message M{^Name^int a=1;^Name^Int32 b=2;^Name^int3 c=3;^Name^int322 d=4;^Name^enum_ e=5;^Name^float64 f=6;^Name^sint f7=7;^Name^message_ h=8;^Name^any i=9;}")
}

// P8.1: types that are found: messages and enums, from the nearest scope outwards,
// in each kind of field.
func TestFoundTypes(t *testing.T) {
	marked(t, "a: message M{M a=1;N b=2;E c=3;O d=4;message O{}enum F{A=0;}F e=5;M.O f=6;.M.O g=7;M.F h=8;}message N{}enum E{B=0;}")
	marked(t, "a: package p;message M{M a=1;p.M b=2;.p.M c=3;^Name^.M d=4;^Name^q.M e=5;^Name^p.p.M f=6;}")
	marked(t, "a: package p.q;message M{M a=1;q.M b=2;p.q.M c=3;.p.q.M d=4;^Name^.q.M e=5;^Name^p.M f=6;}")
	marked(t, "a: message M{repeated N a=1;optional N b=2;map<string,N>c=3;oneof o{N d=4;}repeated E e=5;optional E f=6;map<bool,E>g=7;oneof p{E h=8;}}message N{}enum E{A=0;}")
	marked(t, "a: message M{repeated ^Name^X a=1;optional ^Name^X b=2;map<^Name^string,X>c=3;oneof o{^Name^X d=4;}^Name^X e=5;}")
	marked(t, "a: message M{repeated ^Kind^S a=1;optional ^Kind^S b=2;map<^Kind^string,S>c=3;oneof o{^Kind^S d=4;}^Kind^S e=5;^Kind^.S f=6;}service S{}")
}

// P8.1: names are resolved in the scope of the message of the field.
func TestScopesOfTypes(t *testing.T) {
	marked(t, "a: message M{message N{message O{M a=1;N b=2;O c=3;N.O d=4;M.N e=5;M.N.O f=6;P g=7;^Name^M.P h=8;N.P i=9;}message P{}}^Name^O a=1;N.O b=2;^Name^P c=3;N d=4;}message Q{^Name^N a=1;M.N b=2;^Name^O c=3;^Name^N.O d=4;M.N.O e=5;}")
	marked(t, "a: package p;message M{"+nested("M a=1;p.M b=2;A c=3;B d=4;A.B e=5;B.C f=6;^Name^C.B g=7;G h=8;^Name^H i=9;M.A.B.C.D.E.F.G j=10;", "A", "B", "C", "D", "E", "F", "G")+"}")
	// What is nearer hides what is further out, whatever it is.
	marked(t, "a: message M{message N{}N a=1;^Kind^.N b=2;}service N{}message O{^Kind^N a=1;}", `b: import"a";`)
	marked(t, "a: package p.M;service N{}", `b: import"a";package p;message M{^Kind^N a=1;M.N_ b=2;message N_{}^Kind^p.M.N c=3;.p.N d=4;}message N{}`)
	marked(t, "a: package p;message p{message M{p.M a=1;p b=2;p.p.M c=3;.p.p.M d=4;^Name^p.p.p.M e=5;^Name^.p.M.p f=6;}}message M{p.M a=1;^Name^p.O b=2;}message N{p.M a=1;p.N b=2;}")
}

// P8.1: only what the file sees is found.
func TestTypesOfOtherFiles(t *testing.T) {
	marked(t, "a: message M{}", `b: import"a";message N{M a=1;^Name^O b=2;}`, `c: message O{^Name^M a=1;^Name^N b=2;}`)
	marked(t, "a: message M{}", `b: import"a";`, `c: import"b";message N{^Name^M a=1;}`, `d: import public"a";`, `e: import"d";message O{M a=1;}`, `f: import public"e";`, `g: import"f";message P{^Name^M a=1;O b=2;}`)
	marked(t, "a: package p;message M{}", `b: package p;message N{^Name^M a=1;^Name^.p.M b=2;^Name^p.M c=3;}`, `c: import"a";import"b";package p;message O{M a=1;N b=2;.p.M c=3;}`)
	marked(t, "a: service S{}", `b: import"a";message M{^Kind^S a=1;}`, `c: message N{^Name^S a=1;}`)
	// What is not seen hides nothing.
	marked(t, "a: package p.q;message M{}", `b: package p;service M{}`, `c: package p.q;import"a";message N{M a=1;}`, `d: package p.q;import"b";message O{^Kind^M a=1;}`, `e: package p.q;import"b";import"a";message P{M a=1;^Kind^p.M b=2;}`)
}

// P8.1: of symbols with the same name the first one that is seen is meant.
func TestTypesOfSameName(t *testing.T) {
	marked(t, "a: message X{}", `b: service ^Twice^X{}`, `c: import"a";message M{X a=1;}`, `d: import"b";message N{^Kind^X a=1;}`, `e: import"a";import"b";message O{X a=1;}`, `f: message P{^Name^X a=1;}`)
	marked(t, "a: service X{}", `b: message ^Twice^X{^Name^a a=1;X b=2;}`, `c: import"a";message M{^Kind^X a=1;}`, `d: import"b";message N{X a=1;}`, `e: import"a";import"b";message O{^Kind^X a=1;}`)
	marked(t, "a: service X{}message ^Twice^X{}message M{^Kind^X a=1;}", "b: message ^Twice^M{^Name^X a=1;}")
	marked(t, "a: message X{}service ^Twice^X{}message M{X a=1;}")
}

// P8.1: a name that is longer than it may be is still found.
func TestLongTypes(t *testing.T) {
	long := strings.Repeat("x", 32)
	pack := strings.Join([]string{long, long, long, long[:29]}, ".")
	marked(t, "a: package "+pack+";message ^Limit^M{M a=1;^Name^"+pack+" b=2;message ^Limit^N{M a=1;N b=2;M.N c=3;^Name^N.M d=4;}}")
}

// P8.1: the keys of maps are of integers, other than enums, or of string.
func TestKeysOfMaps(t *testing.T) {
	const allowed = " int32 int64 uint32 uint64 bool sint32 sint64 fixed32 sfixed32 fixed64 sfixed64 string "
	for _, name := range append(basic(), strings.Fields("M E S X .M .E .S .X .int32 .string M.N M.int32 .M.N p.q")...) {
		mark := "^Kind^"
		if strings.Contains(allowed, " "+name+" ") {
			mark = ""
		}
		for _, value := range []string{"int32", "M", "E", ".M.N", "bytes"} {
			marked(t, "a: message M{map<"+mark+name+","+value+">a=1;message N{}}enum E{A=0;}service S{}")
		}
		marked(t, "a: message M{map<^Name "+strings.Trim(mark, "^")+"^"+name+",Y>a=1;message N{}}enum E{A=0;}service S{}")
		marked(t, "a: message M{map<^Kind^"+name+",S>a=1;message N{}}enum E{A=0;}service S{}")
	}
	marked(t, "a: message M{message string{}map<string,string>a=1;map<^Kind^.string,string>b=2;map<^Kind^M.string,.M.string>c=3;}")
	marked(t, "a: message M{message N{map<^Name^int32,O>a=1;map<^Kind^N,N>b=2;}map<^Kind^float,int32>a=1;}")
}
