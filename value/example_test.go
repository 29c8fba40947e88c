package value_test

import (
	"testing"

	"signetry/api"
)

// chapterSet is the set of the chapter's examples, and of chapter 9.
const chapterSet = `a:package p;message M{N n=2;optional int32 i=1;map<string,E>m=3;message N{}}enum E{Z=0;}`

// The examples of the chapter, in its order.
func TestChapterExamples(t *testing.T) {
	s := built(t, chapterSet)
	a, b := entry(str("a"), num(0)), entry(str("b"), num(1))
	for _, v := range []api.Val{
		msg("p.M"),
		msg("p.M", slot(1, num(0))),
		msg("p.M", slot(2, msg("p.M.N"))),
		msg("p.M", slot(3, a, b)),
	} {
		checks(t, s, "p.M", v, api.OK)
	}
	for _, v := range []api.Val{
		msg("p.M", slot(1, num(0), num(0))),
		msg("p.M", slot(1, num(1), num(2))),
		msg("p.M", slot(1, num(1<<31))),
		msg("p.M", slot(2, msg("p.M"))),
		msg("p.M", slot(3, b, a)),
		msg("p.M", slot(4, num(0))),
	} {
		checks(t, s, "p.M", v, api.ErrType)
	}
	checks(t, s, "p.M", msg("p.M.N"), api.ErrType)
	checks(t, s, "q", msg("p.M"), api.ErrName)
	checks(t, s, "p.M", nest(31, "p.M", 2), api.ErrLimit)
}
