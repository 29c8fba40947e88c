package enc_test

import (
	"slices"
	"testing"

	"signetry/api"
	"signetry/enc"
)

// chapterSet is the set of the chapter's examples.
const chapterSet = `a:message M{int32 a=1;sint32 b=2;repeated int32 c=3;string d=4;fixed32 e=5;map<string,bool>m=6;M n=7;}`

// The examples of the chapter, in its order.
func TestChapterExamples(t *testing.T) {
	s := built(t, chapterSet)
	for _, x := range []struct {
		v     api.Val
		order []int
		want  string
	}{
		{msg("M", slot(1, num(150))), nil, "08 96 01"},
		{msg("M", slot(1, num(-1))), nil, "08 ff ff ff ff ff ff ff ff ff 01"},
		{msg("M", slot(2, num(-2)), slot(3, num(1), num(300))), []int{3, 2}, "1a 03 01 ac 02 10 03"},
		{msg("M", slot(4, str("é")), slot(5, num(258))), nil, "22 02 c3 a9 2d 02 01 00 00"},
		{msg("M", slot(6, entry(str("a"), num(1))), slot(7, msg("M", slot(1, num(1))))), nil, "32 05 0a 01 61 10 01 3a 02 08 01"},
	} {
		writes(t, s, "M", x.v, x.order, raw(x.want))
	}
	v := msg("M", slot(1, num(1)))
	refuses(t, s, "M", v, []int{2}, api.ErrOrder)
	refuses(t, s, "M", v, []int{1, 1}, api.ErrOrder)
}

// The examples of the document that are bytes of values.
func TestDocumentExamples(t *testing.T) {
	s := built(t, `a:message M{int32 a=1;repeated bool b=2;}message N{bytes b=1;}`)
	writes(t, s, "M", msg("M", slot(1, num(150)), slot(2, num(1))), nil, raw("089601120101"))
	writes(t, s, "N", msg("N", slot(1, str("\xff"))), nil, raw("0a01ff"))
}

// P12.2: the numbers of slots, as they stand, whatever the value is.
func TestRising(t *testing.T) {
	for _, x := range []struct {
		v    api.Val
		want []int
	}{
		{api.Val{}, nil},
		{msg("M"), nil},
		{api.Val{Kind: api.KMsg, F: []api.Slot{}}, nil},
		{num(5), nil},
		{msg("M", slot(1, num(1))), []int{1}},
		{msg("M", slot(1, num(1)), slot(7, num(1)), slot(9)), []int{1, 7, 9}},
		{msg("M", slot(9), slot(1), slot(7)), []int{9, 1, 7}},
		{msg("M", slot(3), slot(3), slot(-1), slot(3)), []int{3, 3, -1, 3}},
		{msg("M", slot(1<<63-1), slot(-1<<63), slot(0)), []int{1<<63 - 1, -1 << 63, 0}},
		{entry(num(1), num(2)), []int{1, 2}},
		{msg("M", slot(4, msg("M", slot(5, num(1)), slot(6)))), []int{4}},
		{api.Val{Kind: api.KInt, F: []api.Slot{slot(8)}}, []int{8}},
		{api.Val{Kind: -3, F: []api.Slot{slot(8), slot(2)}}, []int{8, 2}},
	} {
		if l := enc.Rising(x.v); !slices.Equal(l, x.want) {
			t.Errorf("%v, want %v, of %s", l, x.want, told(x.v))
		}
	}
	// All slots, however many there are.
	var v api.Val
	for n := range 100000 {
		v.F = append(v.F, slot(-n))
	}
	l := enc.Rising(v)
	for n := range v.F {
		if len(l) != 100000 || l[n] != -n {
			t.Fatalf("%d slots", len(l))
		}
	}
}
