package check_test

import "testing"

// P8.1: an enum begins with 0.
func TestFirstValues(t *testing.T) {
	marked(t, "a: enum E{A=0;}enum F{B=-0;C=1;}enum G{D=00;}enum H{E=0x0;F=-1;}")
	marked(t, "a: enum ^Zero^E{}")
	marked(t, "a: enum ^Zero^E{;}message M{enum ^Zero^E{}}")
	for _, n := range []string{"1", "-1", "2", "2147483647", "-2147483648", "0x10"} {
		marked(t, "a: enum ^Zero^E{A="+n+";}message M{enum ^Zero^E{A="+n+";B=0;}}")
	}
	marked(t, `a: enum ^Zero^E{reserved 0;reserved "A";}`)
	marked(t, "a: enum ^Zero^E{^Number^A=2147483648;}")
}

// P8.1: values of one enum with the same name.
func TestNamesOfValues(t *testing.T) {
	marked(t, "a: enum E{A=0;^Twice^A=1;}")
	marked(t, "a: enum E{A=0;B=1;C=2;^Twice^B=3;^Twice^A=4;^Twice^A=5;a=6;AA=7;_A=8;A_=9;}")
	marked(t, "a: enum E{A=0;E=1;M=2;}enum F{A=0;E=1;}message M{enum E{A=0;E=1;}int32 A=1;}", "b: enum G{A=0;}")
}

// P8.1: values of one enum with the same number, and at both ends.
func TestNumbersOfValues(t *testing.T) {
	marked(t, "a: enum E{A=0;^Number^B=0;}")
	marked(t, "a: enum E{A=0;B=1;C=-1;^Number^D=1;^Number^F=-0;^Number^G=-1;^Number^H=0x1;I=2;^Number^J=1;}")
	marked(t, "a: enum E{A=0;B=2147483647;C=-2147483648;D=2147483646;F=-2147483647;G=536870912;H=19000;}")
	marked(t, "a: enum E{A=0;^Number^B=2147483648;^Number^C=0x80000000;D=-2147483648;^Number^F=-0x80000000;}")
	marked(t, "a: enum E{A=0;B=1;}enum F{A=0;B=1;}message M{enum E{A=0;B=1;}}", "b: enum G{A=0;B=1;}")
}

// P8.1: values with a number, or a name, that is reserved in the same enum.
func TestReservedValues(t *testing.T) {
	marked(t, "a: enum E{^Reserved^A=0;reserved 0;}")
	marked(t, "a: enum E{reserved 5 to 9,-5 to -3;A=0;B=4;^Reserved^C=5;^Reserved^D=6;^Reserved^F=9;G=10;H=-2;^Reserved^I=-3;^Reserved^J=-5;K=-6;}")
	marked(t, "a: enum E{A=0;B=99;^Reserved^C=100;^Reserved^D=2147483647;^Number^F=2147483648;reserved 100 to max;}")
	marked(t, "a: enum E{A=0;^Reserved^D=-2147483648;F=-1;reserved -2147483648 to -2;}")
	marked(t, `a: enum E{^Reserved^A=0;^Reserved^B=1;C=2;b=3;reserved "B","A";reserved "AB","E";}`)
	marked(t, `a: enum E{^Reserved^A=0;reserved "A";reserved 0;}`)
	// Values have no keys.
	marked(t, `a: enum E{A=0;FOO_bar=1;reserved "FOOBar","a";}`)
	marked(t, `a: enum E{A=0;reserved "B";reserved 2;}enum F{A=0;B=2;}message M{enum E{A=0;B=2;reserved "C";reserved 3;}int32 C=3;reserved "D";reserved 4;}enum G{A=0;D=4;}`, `b: enum H{A=0;B=2;}`)
	// Ranges that are wrong themselves contain numbers, too.
	marked(t, "a: enum E{A=0;^Number Reserved^B=2147483648;^Reserved^C=2147483647;reserved ^Number^2147483647 to 2147483648;}")
	marked(t, "a: enum E{A=0;^Reserved^B=5;reserved 5,^Number^5;}")
}

// P8.1: what is wrong at one value is told by increasing errors.
func TestAllOfAValue(t *testing.T) {
	marked(t, `a: enum ^Zero^E{^Reserved^A=1;^Twice Number Reserved^A=1;^Twice Number Reserved^A=2147483648;reserved "A",^Twice^"A";reserved ^Number^2147483648;}`)
	marked(t, `a: message M{enum ^Zero^E{A=1;^Twice Number^A=1;reserved 5,^Number^5;}}`)
}

// P8.1: methods of one service with the same name.
func TestNamesOfMethods(t *testing.T) {
	marked(t, "a: message M{}service S{rpc F(M)returns(M);rpc G(M)returns(M){}rpc ^Twice^F(M)returns(M);rpc f(M)returns(M);rpc ^Twice^G(M)returns(M);rpc ^Twice^F(M)returns(M){}}")
	marked(t, "a: message M{}service S{rpc F(M)returns(M);rpc S(M)returns(M);rpc M(M)returns(M);}service T{rpc F(M)returns(M);}", `b: import"a";service U{rpc F(M)returns(M);}`)
}

// P8.1: what a method takes and returns is a message.
func TestTypesOfMethods(t *testing.T) {
	marked(t, "a: message M{message N{}}enum E{A=0;}service S{rpc F(M)returns(M.N);rpc G(.M)returns(.M.N);}")
	marked(t, "a: service S{rpc F(^Name^X)returns(^Name^X);rpc G(^Name^.X)returns(^Name^.X.Y);}")
	marked(t, "a: message M{message N{}enum F{A=0;}}enum E{A=0;}service S{rpc F(^Kind^E)returns(M);rpc G(M)returns(^Kind^.E);rpc H(^Kind^S)returns(^Kind^.S);rpc I(^Kind^M.F)returns(^Name^N);rpc J(^Name^X)returns(^Kind^E);rpc K(^Kind^E)returns(^Name^X);}")
	marked(t, "a: service S{rpc F(^Kind^S)returns(^Kind^S);rpc ^Twice^F(^Name^N)returns(^Kind^S);}")
	for _, name := range basic() {
		marked(t, "a: service S{rpc F(^Name^"+name+")returns(^Name^"+name+");}")
		marked(t, "a: message "+name+"{}service S{rpc F("+name+")returns("+name+");}")
		marked(t, "a: enum "+name+"{A=0;}service S{rpc F(^Kind^"+name+")returns(^Kind^."+name+");}")
	}
}

// P8.1: names are resolved in the scope of the full name of the service.
func TestScopesOfMethods(t *testing.T) {
	marked(t, "a: package p;message M{}service S{rpc F(M)returns(p.M);rpc G(.p.M)returns(^Name^.M);}")
	marked(t, "a: package p.S;message M{}enum N{A=0;}", `b: package p;import"a";service S{rpc F(M)returns(S.M);rpc G(^Kind^N)returns(.p.N);rpc H(^Name^.p.M)returns(.p.S.M);}message N{}service T{rpc F(^Name^M)returns(N);}`)
	marked(t, "a: package p.S;service M{}", `b: package p;service S{rpc F(M)returns(M);}message M{}`, `c: package p;import"a";service ^Twice^S{rpc F(^Kind^M)returns(^Name^.p.M);}`)
	marked(t, "a: package S;message M{message S{}}", `b: import"a";service S{rpc F(M)returns(S.M);rpc G(M.S)returns(^Kind^S);}message M{}message N{}`)
	// Only what the file sees is found.
	marked(t, "a: message M{}", `b: import"a";service S{rpc F(M)returns(M);}`, `c: import"b";service T{rpc F(^Name^M)returns(^Name^M);}`, `d: import public"a";`, `e: import"d";service U{rpc F(M)returns(M);}`)
	marked(t, "a: enum M{A=0;}", `b: message ^Twice^M{}`, `c: import"a";import"b";service S{rpc F(^Kind^M)returns(^Kind^.M);}`, `d: import"b";service T{rpc F(M)returns(M);}`)
}
