package check_test

import (
	"fmt"
	"strings"
	"testing"

	"signetry/api"
)

// P8.1: the same full name twice in one file, of one kind or of two.
func TestTwiceInOneFile(t *testing.T) {
	marked(t, "a: message M{}message ^Twice^M{}")
	marked(t, "a: enum E{A=0;}enum ^Twice^E{A=0;}service S{}service ^Twice^S{}")
	kinds := []string{"message ^M{}", "enum ^M{A=0;}", "service ^M{}"}
	for _, first := range kinds {
		for _, second := range kinds {
			marked(t, "a: "+strings.Replace(first, "^", "", 1)+strings.Replace(second, "^", "^Twice^", 1)+strings.Replace(first, "^", "^Twice^", 1))
		}
	}
	marked(t, "a: message M{message N{}enum ^Twice^N{A=0;}enum E{A=0;}message ^Twice^N{}message ^Twice^E{}}")
	marked(t, "a: message M{message N{}}message ^Twice^M{enum ^Twice^N{A=0;}message O{}}message ^Twice^M{message ^Twice^O{}}")
	marked(t, "a: package M;message M{message M{message M{}enum E{A=0;}}enum E{A=0;}}message E{}message m{}message MM{}")
	marked(t, "a: message M{message N{}}message N{}enum O{A=0;}message P{enum O{A=0;}message M{message N{}}}")
	// Names of other things are no symbols.
	marked(t, `a: package p;message M{int32 M=1;int32 p=2;oneof N{int32 N=3;}message O{}reserved "O";}enum E{E=0;M=1;p=2;}service S{rpc S(M)returns(M);rpc M(M)returns(M);}message p{}`)
}

// P8.1: the same full name in several files, whether these see each other or not.
func TestTwiceInSomeFiles(t *testing.T) {
	marked(t, "a: message M{}", "b: message ^Twice^M{}", "c: message ^Twice^M{}")
	marked(t, `a: import"b";message M{}`, "b: message ^Twice^M{}")
	marked(t, "a: message M{}", `b: import"a";enum ^Twice^M{A=0;}`, `c: import"b";service ^Twice^M{}message ^Twice^M{}`)
	marked(t, "a: package p;message M{message N{}}", "b: package p.M;enum ^Twice^N{A=0;}service O{}", "c: package p;message ^Twice^M{enum ^Twice^O{A=0;}}message p{}", "d: message p{message ^Twice^M{}message ^Twice^p{}}message M{}")
	marked(t, "a: package p;message M{}", "b: package q;message M{}", "c: message M{}", "d: package p.q;message M{}")
	marked(t, "-: ;;;;message M{}", ".: message ^Twice^M{}", "0: message ^Twice^M{}", "A: message ^Twice^M{}", "_: message ^Twice^M{}", "a: message ^Twice^M{}", "aa: message ^Twice^M{}")
}

// long is a full name of so many bytes.
func long(bytes int) string {
	s := strings.Repeat(strings.Repeat("x", 31)+".", bytes/32) + strings.Repeat("y", bytes%32)
	if strings.HasSuffix(s, ".") {
		return s[:bytes-1] + "z"
	}
	return s
}

// P8.1: full names of 128 bytes and of more.
func TestLongNames(t *testing.T) {
	for _, n := range []int{1, 31, 100, 125, 126, 127, 128} {
		mark := ""
		if n+2 > 128 {
			mark = "^Limit^"
		}
		pack := long(n)
		if len(pack) != n {
			t.Fatal(n, pack)
		}
		marked(t, "a: package "+pack+";message "+mark+"M{}enum "+mark+"E{A=0;}service "+mark+"S{}")
	}
	for _, c := range []struct{ pack, own int }{{95, 32}, {96, 31}, {120, 7}, {126, 1}} {
		own := strings.Repeat("i", c.own-1)
		marked(t, "a: package "+long(c.pack)+";message "+own+"M{}enum "+own+"E{A=0;}service "+own+"S{}")
		marked(t, "a: package "+long(c.pack+1)+";message ^Limit^"+own+"M{}enum ^Limit^"+own+"E{A=0;}service ^Limit^"+own+"S{}")
	}
	// Inner names are as long as all that is around them.
	a, b := strings.Repeat("a", 32), strings.Repeat("b", 28)
	marked(t, "a: "+nested("message "+b+"{}message ^Limit^"+b+"bb{message ^Limit^c{}}enum "+b+"b{A=0;}enum ^Limit^"+b+"ee{A=0;}", a, a, a))
	if len(strings.Join([]string{a, a, a, b + "b"}, ".")) != 128 {
		t.Error("these are not 128 bytes")
	}
	marked(t, "a: package "+long(127)+";message ^Limit^M{}message ^Limit Twice^M{}", "b: package "+long(127)+";enum ^Limit Twice^M{A=0;}")
}

// P8.1: 128 of each kind, and more, in one file.
func TestManyInOneFile(t *testing.T) {
	marked(t, "a: "+many(128, "message M#{}"))
	marked(t, "a: "+many(128, "enum E#{A=0;}"))
	marked(t, "a: "+many(128, "message M#{}")+many(128, "enum E#{A=0;}")+many(64, "service S#{}"))
	// The last one by its name is one too many.
	marked(t, "a: "+strings.Replace(many(127, "message M#{}"), "M126", "^Limit^M126", 1)+"message A{message B{}}")
	marked(t, "a: message A{"+many(127, "message M#{}")+"message ^Limit^M127{}}")
	marked(t, "a: message A{"+many(127, "message M#{}")+"}")
	marked(t, "a: message A{"+many(128, "enum E#{A=0;}")+"}enum ^Limit^E{A=0;}")
	marked(t, "a: message Z{"+many(127, "enum E#{A=0;}")+"enum ^Limit^E127{A=0;}}enum E{A=0;}")
	marked(t, "a: message A{"+many(126, "message M#{}")+"}message B{message ^Limit^C{}message ^Limit^D{}}")
	marked(t, "a: message A{"+many(128, "enum E#{A=0;}")+"}message B{"+strings.ReplaceAll(many(128, "enum E#{A=0;}"), "enum ", "enum ^Limit^")+"}")
}

// P8.1: 128 of each kind, and more, over several files.
func TestManyInSomeFiles(t *testing.T) {
	marked(t, "a: "+many(64, "message M#{}"), "b: "+many(64, "message N#{}"))
	marked(t, "a: "+many(64, "message M#{}"), "b: "+many(64, "message N#{}"), "c: message ^Limit^O{}")
	marked(t, "a: "+many(64, "message M#{}"), "b: "+strings.Replace(many(64, "message N#{}"), "N063", "^Limit^N063", 1), "c: message A{}")
	marked(t, "a: "+many(64, "service S#{}"), "b: "+many(64, "service T#{}"))
	marked(t, "a: "+many(64, "service S#{}"), "b: "+many(64, "service T#{}"), "c: message M{}enum E{A=0;}service ^Limit^U{}service ^Limit^V{}")
	marked(t, "a: "+many(128, "enum E#{A=0;}"), "b: package E127;enum ^Limit^A{A=0;}", "c: package p;enum ^Limit^A{A=0;}")
	marked(t, "a: package p;"+many(128, "message M#{}"), "b: "+many(128, "enum E#{A=0;}"), "c: "+many(64, "service S#{}"), "d: "+many(64, "service T#{}"))
}

// P8.1: each one of a name counts, and can be wrong in both ways.
func TestManyOfOneName(t *testing.T) {
	marked(t, "a: message M{}"+strings.Repeat("message ^Twice^M{}", 127))
	marked(t, "a: message M{}"+strings.Repeat("message ^Twice^M{}", 127), "b: message ^Limit Twice^M{}enum ^Twice^M{A=0;}message ^Limit Twice^M{}")
	marked(t, "a: message L{}message M{}"+strings.Repeat("message ^Twice^M{}", 126), "b: message ^Limit Twice^M{}service ^Twice^M{}message ^Limit^N{}")
}

// P8.1: as many symbols as there can be: all from the 129th one on, by their names.
func TestManyMany(t *testing.T) {
	var lines []string
	for i := range 16 {
		mark := "^Limit^"
		if i == 0 {
			mark = ""
		}
		of := func(kind string, count int, body string) string {
			mark := mark
			if count*i < 128 {
				mark = ""
			}
			return strings.ReplaceAll(many(count, kind+" ^^"+kind+"#"+body), "^^", mark)
		}
		lines = append(lines, fmt.Sprintf("%02d: package p%02d;", i, i)+of("message", 128, "{}")+of("enum", 128, "{A=0;}")+of("service", 64, "{}"))
	}
	marked(t, lines...)
}

// P8.1: the errors of declarations and of what is in them are all told.
func TestDeclarationsAndFields(t *testing.T) {
	marked(t, "a: message M{^Name^X a=1;enum ^Zero^E{}message N{^Name^Y b=1;}}message ^Twice^M{^Name^X a=1;enum ^Twice Zero^E{}}service ^Twice^M{rpc F(^Name^X)returns(M);}")
	l := units("a: enum E{}enum E{}")
	is(t, l, "a 21 ErrZero", "a 29 ErrTwice", "a 29 ErrZero")
	l[0].Tree.Enums[1].At = 21
	is(t, l, "a 21 ErrTwice", "a 21 ErrZero")
	if api.ErrTwice > api.ErrZero {
		t.Error("the errors are not in order")
	}
}
