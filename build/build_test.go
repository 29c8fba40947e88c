package build_test

import (
	"strings"
	"testing"

	"signetry/api"
	"signetry/build"
)

// P9.1: what files.Read refuses, without a location.
func TestWrongArguments(t *testing.T) {
	one := sources("a: message M{}")
	fails(t, nil, nil, api.ErrArg, "", 0)
	fails(t, one, nil, api.ErrArg, "", 0)
	fails(t, one, []string{}, api.ErrArg, "", 0)
	fails(t, sources("a:", "a:"), []string{"a"}, api.ErrArg, "", 0)
	fails(t, sources("a*:"), []string{"a*"}, api.ErrArg, "", 0)
	fails(t, make([]api.Source, 17), []string{"a"}, api.ErrArg, "", 0)
	fails(t, one, make([]string, 17), api.ErrArg, "", 0)
	refuses(t, unitsOf(sources("b:", "a:")), api.ErrArg, "", 0)
	refuses(t, unitsOf(sources(`a: import"b";`)), api.ErrArg, "", 0)
	refuses(t, []api.Unit{{}}, api.ErrArg, "", 0)
	refuses(t, make([]api.Unit, 17), api.ErrArg, "", 0)
}

// failsAt checks the error of files, in one of which ^ is ahead of its place.
func failsAt(t *testing.T, want api.Errno, roots string, lines ...string) {
	t.Helper()
	l := sources(lines...)
	where := api.Where{Path: "no mark"}
	for i, s := range l {
		before, after, isThere := strings.Cut(s.Text, "^")
		if l[i].Text = before + after; isThere {
			where = api.Where{Path: s.Path, At: len(before)}
		}
	}
	fails(t, l, strings.Fields(roots), want, where.Path, where.At)
}

// P9.1: an error of reading, at its place, in the right file.
func TestErrorsOfReading(t *testing.T) {
	fails(t, nil, []string{"a"}, api.ErrMissing, "a", 0)
	fails(t, sources("a:"), []string{"b"}, api.ErrMissing, "b", 0)
	failsAt(t, api.ErrMissing, "a", `a: import^"b";`)
	failsAt(t, api.ErrCycle, "a", `a: import"b";`, `b: import"c";import^"a";`, "c:")
	failsAt(t, api.ErrTwice, "a", `a: import"b";import^"b";`, "b:")
	failsAt(t, api.ErrSyntax, "a", `a: import"b";`, "b: message M{int32 a=1^}")
	failsAt(t, api.ErrWord, "a", "a: ^\x01")
	failsAt(t, api.ErrRange, "a", "a: message M{int32 a=^99999999999;}")
	failsAt(t, api.ErrLimit, "a", "a: package ^"+many(100, "aa.")+"b;")
	failsAt(t, api.ErrDeep, "a", "a: "+nested("message ^M{}", "M", "M", "M", "M", "M", "M", "M", "M"))
	// What is wrong in reading comes ahead of all that is wrong in files.
	failsAt(t, api.ErrWord, "a b", `a: message M{X a=1;}`, "b: ;^?")
	fails(t, sources(`a: message M{X a=1;}`), []string{"a", "b"}, api.ErrMissing, "b", 0)
}

// P9.1: an error of checking, the first one by path and offset, whatever the order
// of sources and roots is.
func TestErrorsOfChecking(t *testing.T) {
	failsAt(t, api.ErrTwice, "a", "a: message M{int32 a=1;int32 ^a=1;}")
	failsAt(t, api.ErrName, "a", "a: message M{^X a=1;}")
	failsAt(t, api.ErrZero, "c b a", "b: enum ^E{A=1;}", "c: message M{X a=1;}", "a: message N{}")
	failsAt(t, api.ErrTwice, "b a", "a: message M{}", "b: message ^M{}")
	failsAt(t, api.ErrName, "a b", "a: message M{^N n=1;}", "b: message N{}")
	failsAt(t, api.ErrKind, "a", "a: service S{rpc F(^S)returns(S);}")
	failsAt(t, api.ErrReserved, "a", "a: message M{reserved 1;int32 a=^1;}")
	failsAt(t, api.ErrKey, "a", `a: message M{int32 ^a=1[json_name="-"];}`)
	failsAt(t, api.ErrSyntax, "a", "a: message M{oneof ^o{}}")
	failsAt(t, api.ErrNumber, "a b", "a:", "b: message M{int32 a=^0;}")
	failsAt(t, api.ErrLimit, "a b", "a: "+many(65, "message A#{}"), "b: "+many(63, "message B#{}")+"message ^C{}")
	refuses(t, unitsOf(sources("a:", "b: message M{int32 a=0;}")), api.ErrNumber, "b", 16+len("message M{int32 a="))
}

// P9.1: sources that are not required do not matter, however wrong they are.
func TestWhatIsNotRequired(t *testing.T) {
	l := sources(`a: import"b";message M{N n=1;}`, "b: message N{}", "c: message M{X a=0;}", "d: ?")
	s, at, e := build.Build(l, []string{"a"})
	if e != api.OK || at != (api.Where{}) {
		t.Fatal(e, at)
	}
	tells(t, s,
		"file a", "a imports b", "file b",
		"message M of a", "M 1 n n opt message N",
		"message N of b")
}

// P9.1: units that are nothing, or declare nothing, are linked to as little.
func TestNothing(t *testing.T) {
	for _, l := range [][]api.Unit{nil, {}} {
		if s, at, e := build.Link(l); e != api.OK || at != (api.Where{}) || len(told(s)) > 0 {
			t.Errorf("%+v, %v, %d", s, at, e)
		}
	}
	tells(t, built(t, "a:"), "file a")
	tells(t, built(t, "a: package p.q;"), "file a p.q")
	tells(t, built(t, "a: message M{}enum E{A=0;}service S{}"),
		"file a", "message M of a", "enum E of a", "E A 0", "service S of a")
}

// P9.1: trees need no offsets.
func TestBareUnits(t *testing.T) {
	l := unitsOf(sources(`a: import"b";message M{N n=1;}`, "b: message N{}"))
	want, _, _ := build.Link(l)
	for i := range l {
		l[i].Tree.Imports = append([]api.Import{}, l[i].Tree.Imports...)
		for k := range l[i].Tree.Imports {
			l[i].Tree.Imports[k].At = -5
		}
	}
	s, at, e := build.Link(l)
	if e != api.OK || at != (api.Where{}) || !deepEqual(s, want) {
		t.Errorf("%+v, %v, %d", s, at, e)
	}
}
