package kinds_test

import (
	"math"
	"testing"

	"signetry/api"
	"signetry/kinds"
)

// The examples of the chapter, in its order.
func TestChapterExamples(t *testing.T) {
	for i, c := range [][2]int{
		{kinds.Class(5), 1}, {kinds.Class(17), 2}, {kinds.Class(10), 0},
		{kinds.Wire(15), 5}, {kinds.Wire(1), 1},
		{kinds.Type("fixed64"), 6}, {kinds.Type("int"), 0},
	} {
		if c[0] != c[1] {
			t.Errorf("%d: %d, want %d", i, c[0], c[1])
		}
	}
	if kinds.Name(16) != "sfixed64" {
		t.Errorf("the name of 16 is %q", kinds.Name(16))
	}
	one, rep := field(api.TInt32, api.One), field(api.TInt32, api.Rep)
	for i, c := range [][2]bool{
		{kinds.Holds(8, false, 1), true},
		{kinds.Holds(5, true, 1<<31), true},
		{kinds.Holds(5, false, 1<<31), false},
		{kinds.Holds(4, true, 1), false},
		{kinds.Holds(4, false, math.MaxUint64), true},

		{kinds.Within(5, 3), true},
		{kinds.Within(13, 3), true},
		{kinds.Within(3, 13), false},
		{kinds.Within(8, 17), true},

		{kinds.Reads(one, field(api.TBool, api.One)), true},
		{kinds.Reads(one, field(api.TSint32, api.One)), false},
		{kinds.Reads(field(api.TString, api.One), field(api.TBytes, api.One)), true},
		{kinds.Reads(field(api.TBytes, api.One), field(api.TString, api.One)), false},

		{kinds.Reads(rep, one), false},
		{kinds.Reads(field(api.TString, api.Rep), field(api.TString, api.One)), true},
		{kinds.Reads(one, field(api.TInt64, api.Rep)), true},
	} {
		if c[0] != c[1] {
			t.Errorf("%d: %t, want %t", i, c[0], c[1])
		}
	}
}
