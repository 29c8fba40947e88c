package check_test

import (
	"fmt"
	"strings"
	"testing"
)

// P8.1: a field with the name of an earlier one.
func TestNamesOfFields(t *testing.T) {
	marked(t, "a: message M{int32 a=1;int32 ^Twice Key^a=2;}")
	marked(t, `a: message M{int32 a=1;int32 ^Twice^a=2[json_name="b"];}`)
	marked(t, `a: message M{int32 a=1[json_name="b"];int32 ^Twice^a=2;}`)
	marked(t, `a: message M{int32 a=1;int32 ^Twice^a=2[json_name="b"];int32 ^Twice^a=3[json_name="c"];}`)
	marked(t, "a: message M{int32 a=1;int32 b=2;string ^Twice Key^b=3;bytes ^Twice Key^a=4;int32 c=5;int32 ^Twice Key^a=6;}")
	marked(t, "a: message M{oneof o{int32 a=1;int32 ^Twice Key^a=2;}oneof p{int32 ^Twice Key^a=3;}int32 ^Twice Key^a=4;map<int32,M>^Twice Key^a=5;repeated M ^Twice Key^a=6;optional M ^Twice Key^a=7;}")
	marked(t, "a: message M{message N{int32 a=1;}int32 a=1;enum E{a=0;}oneof a{int32 b=2;}message a{}message O{int32 a=1;}}message P{int32 a=1;}")
	marked(t, "a: message M{int32 a=1;int32 A=2;int32 aa=3;int32 ^Key^_a=4;int32 a1=5;int32 M=6;}")
}

// P8.1: numbers at both ends of what they may be, and of what they may not be.
func TestNumbersOfFields(t *testing.T) {
	for _, n := range []string{"1", "2", "15", "16", "2047", "18998", "18999", "20000", "20001", "536870910", "536870911", "0x1FFFFFFF", "0x4A37", "01"} {
		marked(t, "a: message M{int32 a="+n+";}")
		marked(t, "a: message M{oneof o{int32 a="+n+";}}", "b: message N{map<int32,int32>a="+n+";}", "c: message O{repeated int32 a="+n+";}")
	}
	for _, n := range []string{"0", "00", "0x0", "19000", "19001", "19500", "19998", "19999", "0x4A38", "0x4E1F", "536870912", "536870913", "0x20000000", "1000000000", "2147483647", "2147483648"} {
		marked(t, "a: message M{int32 a=^Number^"+n+";int32 b=1;int32 c=^Number^"+n+";}")
		marked(t, "a: message M{oneof o{int32 a=^Number^"+n+";}}", "b: message N{map<int32,int32>a=^Number^"+n+";}", "c: message O{repeated int32 a=^Number^"+n+";}")
	}
}

// P8.1: a number that an earlier field has.
func TestSameNumbers(t *testing.T) {
	marked(t, "a: message M{int32 a=1;int32 b=^Number^1;}")
	marked(t, "a: message M{int32 a=1;int32 b=2;int32 c=^Number^01;int32 d=^Number^0x2;int32 e=3;int32 f=^Number^1;}")
	marked(t, "a: message M{oneof o{int32 a=5;int32 b=^Number^5;}oneof p{int32 c=^Number^5;}map<int32,M>d=^Number^5;repeated M e=^Number^5;optional M f=^Number^5;}")
	marked(t, "a: message M{message N{int32 a=1;}int32 a=1;}message O{int32 a=1;enum E{A=0;B=1;}}")
	marked(t, "a: message M{int32 a=536870911;int32 b=^Number^536870911;int32 c=18999;int32 d=^Number^18999;}")
}

// P8.1: a number in a range of the same message.
func TestReservedNumbers(t *testing.T) {
	marked(t, "a: message M{int32 a=^Reserved^5;reserved 5;}")
	marked(t, "a: message M{reserved 5;int32 a=^Reserved^5;}")
	marked(t, "a: message M{int32 a=3;int32 b=4;int32 c=^Reserved^5;int32 d=^Reserved^6;int32 e=^Reserved^9;int32 f=10;reserved 5 to 9;}")
	marked(t, "a: message M{reserved 1,3 to 4,6 to 6;reserved 8;int32 a=^Reserved^1;int32 b=2;int32 c=^Reserved^3;int32 d=^Reserved^4;int32 e=5;int32 f=^Reserved^6;int32 g=7;int32 h=^Reserved^8;}")
	marked(t, "a: message M{int32 a=1;int32 b=99;int32 c=^Reserved^100;int32 d=^Reserved^536870911;reserved 100 to max;}")
	marked(t, "a: message M{oneof o{int32 a=^Reserved^5;}map<int32,M>b=^Reserved^6;repeated M c=^Reserved^7;optional M d=^Reserved^8;reserved 5 to 8;}")
	// In an inner message, an outer one, an enum, another message, or another file they are not reserved.
	marked(t, "a: message M{message N{int32 a=5;reserved 6;}enum E{A=0;reserved 7;}int32 a=6;int32 b=7;reserved 5;}message O{int32 a=5;int32 b=6;}", "b: message P{int32 a=5;}")
	// Ranges that are wrong themselves contain numbers, too.
	marked(t, "a: message M{int32 a=^Number Reserved^0;reserved ^Number^0;}")
	marked(t, "a: message M{reserved ^Number^536870911 to 536870912;int32 a=^Reserved^536870911;int32 b=^Number Reserved^536870912;int32 c=^Number^536870913;}")
	marked(t, "a: message M{reserved 5,^Number^5;int32 a=^Reserved^5;int32 b=^Number Reserved^5;}")
	marked(t, "a: message M{reserved 19000 to 19999;int32 a=^Number Reserved^19000;int32 b=20000;}")
}

// P8.1: a name, or a key, that is reserved in the same message.
func TestReservedNames(t *testing.T) {
	marked(t, `a: message M{int32 ^Reserved^a=1;reserved "a";}`)
	marked(t, `a: message M{reserved "b",'a';reserved "c";int32 ^Reserved^a=1;int32 d=2;int32 ^Reserved^c=3;}`)
	marked(t, `a: message M{int32 ^Reserved^foo_bar=1;reserved "fooBar";}`)
	marked(t, `a: message M{int32 ^Reserved^foo_bar=1;reserved "foo_bar";}`)
	marked(t, `a: message M{int32 ^Reserved^foo_bar=1;reserved "foo_bar","fooBar";}`)
	marked(t, `a: message M{int32 ^Reserved^a=1[json_name="b"];reserved "b";}`)
	marked(t, `a: message M{int32 ^Reserved^a=1[json_name="b"];reserved "a";}`)
	marked(t, `a: message M{int32 ^Reserved^foo_bar=1[json_name="x"];reserved "foo_bar";}`)
	// With a key of its own, that of its name is none of its keys.
	marked(t, `a: message M{int32 foo_bar=1[json_name="x"];reserved "fooBar";}`)
	marked(t, `a: message M{int32 a=1;int32 A=2;reserved "aa","_a","a_","B";}`)
	marked(t, `a: message M{oneof o{int32 ^Reserved^a=1;}map<int32,M>^Reserved^b=2;repeated M ^Reserved^c=3;reserved "a","b","c","o";}`)
	// In an inner message, an outer one, an enum, another message, or another file they are not reserved.
	marked(t, `a: message M{message N{int32 a=1;reserved "b";}enum E{A=0;reserved "c";}int32 b=1;int32 c=2;reserved "a";}message O{int32 a=1;int32 b=2;}`, `b: message P{int32 a=1;}`)
	marked(t, `a: message M{reserved "M","N","E","A","o";message N{}enum E{A=0;}oneof o{int32 a=1;}}`)
}

// P8.1: a key that an earlier field has.
func TestSameKeys(t *testing.T) {
	marked(t, "a: message M{int32 foo_bar=1;int32 ^Key^fooBar=2;int32 ^Key^foo__bar=3;int32 ^Key^foo_bar_=4;int32 foobar=5;int32 FooBar=6;int32 ^Key^_foo_bar=7;}")
	marked(t, `a: message M{int32 a=1;int32 ^Key^b=2[json_name="a"];int32 c=3[json_name="b"];int32 ^Key^d=4[json_name="b"];}`)
	marked(t, `a: message M{int32 a=1[json_name="b"];int32 ^Key^b=2;int32 c=3[json_name="a"];}`)
	marked(t, `a: message M{oneof o{int32 a=1;}map<int32,M>^Key^b=2[json_name="a"];repeated M ^Key^c=3[json_name="a"];oneof p{M ^Key^d=4[json_name='a'];}}`)
	marked(t, `a: message M{message N{int32 a=1;}int32 a=1;}message O{int32 b=1[json_name="a"];}`)
	marked(t, `a: message M{int32 a=1[json_name=""];int32 ^Key^b=2[json_name="a"];int32 ^Twice Key^a=3[json_name=""];}`)
}

// P8.1: keys that are none, from names and from Json.
func TestValidKeys(t *testing.T) {
	marked(t, "a: message M{int32 ^Key^_=1;int32 ^Key^__=2;int32 ^Twice Key^_=3;int32 __1=4;int32 ^Key^_1_=5;}", "b: message N{int32 _1_=5;int32 _2=6;}")
}

// P8.1: keys from Json and from the name, of 1, 32 and 33 bytes.
func TestLengthOfKeys(t *testing.T) {
	for n := range 40 {
		// An empty Json is none.
		mark := ""
		if n > 32 {
			mark = "^Key^"
		}
		marked(t, `a: message M{int32 `+mark+`a=1[json_name="`+strings.Repeat("k", n)+`"];}`)
	}
	marked(t, "a: message M{int32 "+strings.Repeat("k", 32)+"=1;int32 k=2;int32 ^Key^"+strings.Repeat("_", 32)+"=3;int32 _"+strings.Repeat("k", 31)+"=4;}")
}

// P8.1: keys with each byte, at the start, inside and at the end.
func TestBytesOfKeys(t *testing.T) {
	const allowed = "ABCDEFGHIJKLMNOPQRSTUVWXYZabcdefghijklmnopqrstuvwxyz0123456789_"
	for c := range 256 {
		mark := "^Key^"
		if strings.IndexByte(allowed, byte(c)) >= 0 {
			mark = ""
		}
		for _, format := range []string{`\%03o`, `x\%03o`, `\%03ox`, `x\%03ox`, `0\%03o0`} {
			marked(t, `a: message M{int32 `+mark+`a=1[json_name="`+fmt.Sprintf(format, c)+`"];}`)
		}
	}
	marked(t, `a: message M{int32 ^Key^a=1[json_name="a.b"];int32 ^Key^b=2[json_name="a-b"];int32 ^Key^c=3[json_name="\u00E4"];int32 ^Key^d=4[json_name="a.b"];int32 e=5[json_name="5"];int32 f=6[json_name="_"];}`)
}

// P8.1: what is wrong at one place is told by increasing errors.
func TestAllOfAField(t *testing.T) {
	marked(t, `a: message M{int32 ^Reserved^a=1;^Name^X ^Twice Reserved Key^a=^Number Reserved^0;^Kind^S ^Twice Reserved Key^a=^Number^1;reserved "a";reserved ^Number^0;}service S{}`,
		`b: import"a";`)
}

// P8.1: a field that has only one thing wrong, beside one that has nothing wrong.
func TestOnlyOneThing(t *testing.T) {
	for _, s := range []string{
		`int32 ^Twice^a=2[json_name="b"];`, `int32 b=^Number^1;`, `int32 b=^Number^19999;`, `int32 b=^Reserved^5;`, `int32 ^Reserved^r=2;`, `int32 ^Reserved^b=2[json_name="r"];`,
		`int32 ^Key^b=2[json_name="a"];`, `int32 ^Key^_=2;`, `^Name^a b=2;`, `^Kind^S b=2;`, `map<^Kind^M,M>b=2;`, `map<^Name^int32,a>b=2;`, `map<^Kind^int32,S>b=2;`,
	} {
		marked(t, `a: service S{}message M{reserved 5;reserved"r";int32 a=1;`+s+`int32 z=9;}`)
		if strings.Contains(s, "json_name") || strings.Contains(s, "map") {
			continue
		}
		marked(t, `a: service S{}message M{reserved 5;reserved"r";int32 a=1;optional `+s+`int32 z=9;}`)
		marked(t, `a: service S{}message M{reserved 5;reserved"r";int32 a=1;repeated `+s+`int32 z=9;}`)
		marked(t, `a: service S{}message M{reserved 5;reserved"r";oneof o{int32 a=1;`+s+`}int32 z=9;}`)
	}
}
