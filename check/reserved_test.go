package check_test

import "testing"

// P8.1: oneofs without fields, and oneofs of one name.
func TestOneofs(t *testing.T) {
	marked(t, "a: message M{oneof o{int32 a=1;}oneof p{int32 b=2;int32 c=3;}}")
	marked(t, "a: message M{oneof ^Syntax^o{}}")
	marked(t, "a: message M{oneof ^Syntax^o{;;}int32 a=1;}")
	marked(t, "a: message M{oneof o{int32 a=1;}oneof ^Syntax^p{}oneof q{int32 b=2;}oneof ^Syntax^r{}}")
	marked(t, "a: message M{oneof o{int32 a=1;}oneof ^Twice^o{int32 b=2;}oneof p{int32 c=3;}oneof ^Twice^o{int32 d=4;}oneof ^Twice^p{int32 e=5;}}")
	marked(t, "a: message M{oneof ^Syntax^o{}oneof ^Syntax Twice^o{}oneof ^Twice^o{int32 a=1;}}")
	marked(t, "a: message M{oneof o{int32 a=1;}message N{oneof o{int32 a=1;}oneof ^Syntax^p{}}oneof p{int32 b=2;}}message O{oneof o{int32 a=1;}}", "b: message P{oneof o{int32 a=1;}}")
	// Oneofs have nothing to do with fields, declarations and reserved names.
	marked(t, `a: message M{oneof M{int32 o=1;}oneof N{int32 M=2;}message N{}int32 N=3;oneof E{int32 p=4;}enum E{A=0;}oneof O{int32 q=5;}reserved "O";}`)
	marked(t, "a: message M{oneof o{^Name^X a=1;}oneof ^Syntax^O{}}")
}

// P8.1: ranges at both ends of the numbers of fields.
func TestEndsOfRanges(t *testing.T) {
	for _, s := range []string{"1", "1 to 1", "1 to 536870911", "536870911", "1 to max", "536870911 to max", "19000 to 19999", "18999,19000", "0x1 to 0x1FFFFFFF"} {
		marked(t, "a: message M{reserved "+s+";}")
	}
	for _, s := range []string{"0", "0 to 0", "0 to 1", "0 to max", "0 to 536870912", "1 to 536870912", "536870911 to 536870912", "536870912", "5 to 2147483647", "2147483648", "2147483648 to 2147483648", "0x20000000"} {
		marked(t, "a: message M{reserved ^Number^"+s+";}")
		marked(t, "a: message M{message N{reserved ^Number^"+s+";}int32 a=19;}")
	}
	marked(t, "a: message M{reserved ^Number^0,1,2 to 536870910,536870911 to max,^Number^536870912;}")
}

// P8.1: ranges that touch, and that overlap.
func TestOverlappingRanges(t *testing.T) {
	marked(t, "a: message M{reserved 1,2,3;reserved 4 to 6,7 to 9;reserved 10 to 10;}")
	marked(t, "a: message M{reserved 10 to 20,1 to 9,21,22 to max;}")
	for _, s := range []string{"10", "10 to 10", "20", "15", "15 to 15", "11 to 19", "10 to 20", "10 to 19", "11 to 20", "9 to 21", "1 to max", "9 to 10", "20 to 21", "1 to 15", "15 to 99", "10 to max", "20 to max"} {
		marked(t, "a: message M{reserved 10 to 20,^Number^"+s+";}")
		marked(t, "a: message M{reserved 10 to 20;reserved ^Number^"+s+";}")
		marked(t, "a: message M{reserved "+s+",^Number^10 to 20;}")
		marked(t, "a: enum E{A=0;reserved "+s+",^Number^10 to 20;}")
		marked(t, "a: enum E{A=0;reserved 10 to 20;reserved ^Number^"+s+";}")
	}
	for _, s := range []string{"9", "21", "1 to 9", "21 to 30", "21 to max"} {
		marked(t, "a: message M{reserved 10 to 20,"+s+";}")
		marked(t, "a: message M{reserved "+s+",10 to 20;}")
		marked(t, "a: enum E{A=0;reserved "+s+",10 to 20;}")
	}
	// A number is told again each time, also one that no field can have.
	marked(t, "a: message M{reserved 1 to 5,^Number^5 to 7,^Number^7,^Number^7,8,^Number^6 to 8;}")
	marked(t, "a: message M{reserved ^Number^0,^Number^0,^Number^0 to 1,^Number^1;}")
	marked(t, "a: message M{reserved ^Number^536870911 to 536870912,^Number^536870911,^Number^536870912;}")
	marked(t, "a: message M{reserved 5;message N{reserved 5;}enum E{A=0;reserved 5;}}message O{reserved 5;}", "b: message P{reserved 5;}")
}

// P8.1: reserved names that are the same.
func TestSameReservedNames(t *testing.T) {
	marked(t, `a: message M{reserved "a","b","A","aa";reserved "c";}enum E{Z=0;reserved "a","b","A","aa";reserved "c";}`)
	marked(t, `a: message M{reserved "a",^Twice^"a",^Twice^'a',"b";reserved ^Twice^"b",^Twice^"\141";}`)
	marked(t, `a: enum E{Z=0;reserved "a",^Twice^"a",^Twice^'a',"b";reserved ^Twice^"b",^Twice^"\141";}`)
	marked(t, `a: message M{reserved "a";message N{reserved "a";}enum E{Z=0;reserved "a";}}message O{reserved "a";}enum F{Z=0;reserved "a";}`, `b: message P{reserved "a";}`)
	// Names are no keys.
	marked(t, `a: message M{reserved "foo_bar","fooBar","foo__bar";}`)
}

// P8.1: ranges of enums, at both ends of the numbers of their values.
func TestRangesOfEnums(t *testing.T) {
	for _, s := range []string{"0", "-1", "-0", "0 to 0", "-5 to 5", "-2147483648", "2147483647", "-2147483648 to 2147483647", "-2147483648 to max", "2147483647 to max", "-2147483648 to -2147483648", "-1 to max", "536870912", "19000"} {
		marked(t, "a: message M{enum ^Zero^E{reserved "+s+";}}enum ^Zero^E{reserved "+s+";}")
	}
	for _, s := range []string{"2147483648", "2147483647 to 2147483648", "0 to 2147483648", "-2147483648 to 2147483648", "2147483648 to 2147483648"} {
		marked(t, "a: message M{enum ^Zero^E{reserved ^Number^"+s+";}}enum ^Zero^E{reserved ^Number^"+s+";}")
	}
	marked(t, "a: enum E{^Reserved^A=0;reserved -5 to -1,1,-9 to -6,^Number^-1,^Number^-1 to 0,2 to 4,^Number^-20 to -9,^Number^-2147483648 to max;}")
	marked(t, "a: enum E{A=0;reserved -3,-2,-1,1,2,3;}")
}
