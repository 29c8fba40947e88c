package wire_test

import (
	"bytes"
	"testing"

	"signetry/api"
	"signetry/wire"
)

// The examples of the chapter, in its order.
func TestChapterExamples(t *testing.T) {
	if got := wire.Var(nil, 300); !bytes.Equal(got, unhex(t, "AC 02")) {
		t.Errorf("Var(300) = %x", got)
	}
	if wire.Size(300) != 2 || wire.Zig(-1) != 1 || wire.Zig(1) != 2 || wire.Zag(3) != -2 {
		t.Error(wire.Size(300), wire.Zig(-1), wire.Zig(1), wire.Zag(3))
	}
	for _, c := range []struct {
		num, kind int
		n         uint64
		b, raw    string
		want      api.Errno
	}{
		{1, 0, 150, "", "08 96 01", api.OK},
		{2, 2, 0, "74 65", "12 02 74 65", api.OK},
		{3, 5, 1, "", "1D 01 00 00 00", api.OK},
		{4, 3, 0, "", "", api.ErrWire},
		{0, 0, 0, "", "", api.ErrRange},
	} {
		r, e := wire.Make(c.num, c.kind, c.n, unhex(t, c.b))
		if e != c.want || !bytes.Equal(r.Raw, unhex(t, c.raw)) {
			t.Errorf("Make(%d, %d, %d, %s) = %x, %d", c.num, c.kind, c.n, c.b, r.Raw, e)
		}
	}
	for _, c := range []struct {
		raw   string
		count int
		want  api.Errno
	}{
		{"08 96 01 12 00", 2, api.OK},
		{"08 96", 0, api.ErrTrunc},
		{"0B", 0, api.ErrWire},
		{"00 01", 0, api.ErrForm},
	} {
		l, e := wire.Split(unhex(t, c.raw))
		if e != c.want || len(l) != c.count {
			t.Errorf("Split(%s): %d records, error %d", c.raw, len(l), e)
		}
	}
}
