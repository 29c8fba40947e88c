package check_test

import "testing"

// The examples of the chapter, in its order.
func TestChapterExamples(t *testing.T) {
	is(t, units("a: message M{int32 a=1;int32 a=1;}"), "a 42 ErrTwice", "a 42 ErrKey", "a 44 ErrNumber")
	is(t, units("a: message M{X a=19000;map<M,int32>b=3;reserved 3;}"), "a 26 ErrName", "a 30 ErrNumber", "a 40 ErrKind", "a 50 ErrReserved")
	is(t, units("a: enum E{A=1;B=1;}message E{}"), "a 21 ErrZero", "a 27 ErrNumber", "a 40 ErrTwice")
	is(t, units("a: message M{oneof o{}reserved 0,5 to 9,7;}"), "a 32 ErrSyntax", "a 44 ErrNumber", "a 53 ErrNumber")
	is(t, units("a: service S{rpc F(S)returns(N);}"), "a 32 ErrKind", "a 42 ErrName")
}
