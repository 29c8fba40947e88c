package build_test

import (
	"testing"

	"signetry/api"
	"signetry/build"
)

// The examples of the chapter, in its order.
func TestChapterExamples(t *testing.T) {
	const a = `a:package p;message M{N n=2;optional int32 i=1;map<string,E>m=3;message N{}}enum E{Z=0;}`
	l := sources(a)
	s, at, e := build.Build(l, []string{"a"})
	if e != api.OK || at != (api.Where{}) || len(s.Msgs) != 2 || s.Msgs[0].Name != "p.M" || s.Msgs[1].Name != "p.M.N" {
		t.Errorf("%+v, %v, %d", s, at, e)
	}
	fields(t, s, "p.M",
		"1 i i opt int32",
		"2 n n opt message p.M.N",
		"3 m m map by string enum p.E")
	fails(t, l, []string{"b"}, api.ErrMissing, "b", 0)
	with := []api.Source{{Path: "a", Text: l[0].Text + "message M{}M m;"}}
	if s, at, e := build.Build(with, []string{"a"}); e != api.ErrSyntax || at != (api.Where{Path: "a", At: len(l[0].Text) + len("message M{}")}) || len(told(s)) > 0 {
		t.Errorf("%+v, %v, %d", s, at, e)
	}
	if e := build.Check(api.Set{}); e != api.OK {
		t.Errorf("the empty set: %d", e)
	}
	if e := build.Check(api.Set{Files: []api.File{{Path: "a"}}, Msgs: []api.Msg{{Path: "b", Name: "M"}}}); e != api.ErrArg {
		t.Errorf("a message of no file: %d", e)
	}
}

// The whole set of the example.
func TestExampleSet(t *testing.T) {
	tells(t, built(t, `a:package p;message M{N n=2;optional int32 i=1;map<string,E>m=3;message N{}}enum E{Z=0;}`),
		"file a p",
		"message p.M of a",
		"p.M 1 i i opt int32",
		"p.M 2 n n opt message p.M.N",
		"p.M 3 m m map by string enum p.E",
		"message p.M.N of a",
		"enum p.E of a",
		"p.E Z 0")
}
