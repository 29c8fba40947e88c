package dec_test

import (
	"testing"

	"signetry/api"
)

// chapterSet is the set of the chapter's examples.
const chapterSet = `a:message M{int32 a=1;sint32 b=2;repeated int32 c=3;string d=4;map<string,bool>m=6;M n=7;oneof o{int32 x=8;bool y=9;}}`

// The examples of the chapter, in its order.
func TestChapterExamples(t *testing.T) {
	s := built(t, chapterSet)
	reads(t, s, "M", raw("08 05 08 00"), msg("M"))
	reads(t, s, "M", raw("08 80 80 80 80 10"), msg("M"))
	reads(t, s, "M", raw("1a 02 01 02 18 03"), msg("M", slot(3, num(1), num(2), num(3))))
	refuses(t, s, "M", raw("1a 01 80"), api.ErrTrunc)
	refuses(t, s, "M", raw("22 01 ff"), api.ErrUtf)
	reads(t, s, "M", raw("0d 01 00 00 00"), msg("M"), raw("0d 01 00 00 00"))
	reads(t, s, "M", raw("32 03 0a 01 61"), msg("M", slot(6, entry(str("a"), num(0)))))
	reads(t, s, "M", raw("32 00"), msg("M", slot(6, entry(str(""), num(0)))))
	reads(t, s, "M", raw("3a 02 08 01 3a 02 10 03"), msg("M", slot(7, msg("M", slot(1, num(1)), slot(2, num(-2))))))
	reads(t, s, "M", raw("40 00 48 01"), msg("M", slot(9, num(1))))
}

// The examples of the document in which bytes are read.
func TestDocumentExamples(t *testing.T) {
	s := built(t, `a:message M{int32 a=1;repeated bool b=2;}message N{bytes b=1;}message O{string b=1;}message P{int64 a=1;}`)
	m := msg("M", slot(1, num(150)), slot(2, num(1)))
	reads(t, s, "M", raw("089601120101"), m)
	reads(t, s, "M", raw("10010896011800"), m, raw("1800"))
	refuses(t, s, "M", raw("18"), api.ErrTrunc)
	reads(t, s, "N", raw("0a01ff"), msg("N", slot(1, str("\xff"))))
	refuses(t, s, "O", raw("0a01ff"), api.ErrUtf)
	reads(t, s, "P", raw("0805 120178"), msg("P", slot(1, num(5))), raw("120178"))
}

// P13.1: no bytes are a value without slots.
func TestNoBytes(t *testing.T) {
	s := built(t, chapterSet, "b:package p;message N{}")
	for _, name := range []string{"M", "p.N"} {
		reads(t, s, name, nil, msg(name))
		reads(t, s, name, []byte{}, msg(name))
	}
}
