package lex_test

import (
	"testing"

	"signetry/api"
)

// The examples of the chapter, in its order.
func TestChapterExamples(t *testing.T) {
	splits(t, "int32 a=0x1F; // no",
		ident(0, "int32"), ident(6, "a"), sign(7, "="), num(8, "0x1F", 31), sign(12, ";"), end(19))
	splits(t, `a.b /* x */ 'c\n' 017`,
		ident(0, "a"), sign(1, "."), ident(2, "b"), lit(12, "c\n"), num(18, "017", 15), end(21))
	for _, c := range []struct {
		s string
		e api.Errno
	}{
		{"08", api.ErrWord}, {"0x", api.ErrWord}, {"1a", api.ErrWord}, {"2147483649", api.ErrRange},
		{"/* a", api.ErrWord}, {"'a", api.ErrQuote}, {"#", api.ErrWord},
	} {
		fails(t, c.s, 0, c.e)
	}
}
