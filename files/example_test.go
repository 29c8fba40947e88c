package files_test

import (
	"testing"

	"signetry/api"
)

// The examples of the chapter, in its order.
func TestChapterExamples(t *testing.T) {
	a := api.Source{Path: "a", Text: `syntax="proto3";import"b";`}
	b := api.Source{Path: "b", Text: `syntax="proto3";import public"c";`}
	c := api.Source{Path: "c", Text: `syntax="proto3";message M{}`}
	d := api.Source{Path: "d", Text: `syntax="proto3";import"d";`}

	l := reads(t, []api.Source{a, b, c, d}, "a", "a b c")
	sees(t, l, "a", "a b c")
	sees(t, l, "b", "b c")
	ordered(t, l, "c b a")

	fails(t, []api.Source{a, b}, "a", api.ErrMissing, "b", 29)
	fails(t, []api.Source{a}, "b", api.ErrMissing, "b", 0)
	fails(t, []api.Source{d}, "d", api.ErrCycle, "d", 22)

	fails(t, []api.Source{a, a}, "a", api.ErrArg, "", 0)
	failsFor(t, []api.Source{a}, nil, api.ErrArg, "", 0)
}

// The examples of DOC.md in which files are linked that are missing or wrong.
func TestExamplesOfScripts(t *testing.T) {
	a := api.Source{Path: "a", Text: "syntax='proto3';message M{int32 a=1}"}
	fails(t, nil, "z", api.ErrMissing, "z", 0)
	fails(t, []api.Source{a}, "a", api.ErrSyntax, "a", 35)
}
