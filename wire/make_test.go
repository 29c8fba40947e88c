package wire_test

import (
	"bytes"
	"math"
	"testing"

	"signetry/api"
	"signetry/wire"
)

// P1.2: each wire type, with both ends of numbers.
func TestMake(t *testing.T) {
	for _, c := range []struct {
		num, kind int
		n         uint64
		b, raw    string
	}{
		{1, 0, 0, "", "08 00"},
		{1, 0, 150, "", "08 96 01"},
		{15, 0, 1, "", "78 01"},
		{16, 0, 1, "", "80 01 01"},
		{api.MaxNum, 0, math.MaxUint64, "", "f8 ff ff ff 0f ff ff ff ff ff ff ff ff ff 01"},
		{1, 1, 0, "", "09 00 00 00 00 00 00 00 00"},
		{1, 1, 0x0102030405060708, "", "09 08 07 06 05 04 03 02 01"},
		{api.MaxNum, 1, math.MaxUint64, "", "f9 ff ff ff 0f ff ff ff ff ff ff ff ff"},
		{2, 2, 0, "", "12 00"},
		{2, 2, 0, "te", "12 02 74 65"},
		{api.MaxNum, 2, 0, "\x00", "fa ff ff ff 0f 01 00"},
		{3, 5, 1, "", "1d 01 00 00 00"},
		{3, 5, 0x01020304, "", "1d 04 03 02 01"},
		{api.MaxNum, 5, 1<<32 - 1, "", "fd ff ff ff 0f ff ff ff ff"},
	} {
		want := api.Rec{Num: c.num, Wire: c.kind, N: c.n, B: []byte(c.b), Raw: unhex(t, c.raw)}
		got, e := wire.Make(c.num, c.kind, c.n, []byte(c.b))
		if e != api.OK || !wire.Same(got, want) {
			t.Errorf("Make(%d, %d, %d, %q) = %+v, %d", c.num, c.kind, c.n, c.b, got, e)
		}
	}
}

// P1.2: errors, each with a zero record, and the first one named wins.
func TestMakeErrors(t *testing.T) {
	full, over := make([]byte, api.MaxBytes), make([]byte, api.MaxBytes+1)
	for _, c := range []struct {
		num, kind int
		n         uint64
		b         []byte
		want      api.Errno
	}{
		{0, 0, 0, nil, api.ErrRange},
		{-1, 0, 0, nil, api.ErrRange},
		{math.MinInt, 0, 0, nil, api.ErrRange},
		{math.MaxInt, 0, 0, nil, api.ErrRange},
		{api.MaxNum + 1, 0, 0, nil, api.ErrRange},
		{api.MaxNum, 0, 0, nil, api.OK},
		{1, 3, 0, nil, api.ErrWire},
		{1, 4, 0, nil, api.ErrWire},
		{1, 6, 0, nil, api.ErrWire},
		{1, 7, 0, nil, api.ErrWire},
		{1, 8, 0, nil, api.ErrWire},
		{1, -1, 0, nil, api.ErrWire},
		{1, math.MinInt, 0, nil, api.ErrWire},
		{1, math.MaxInt, 0, nil, api.ErrWire},
		{1, 5, 1 << 32, nil, api.ErrRange},
		{1, 5, math.MaxUint64, nil, api.ErrRange},
		{1, 5, 1<<32 - 1, nil, api.OK},
		{1, 2, 0, over, api.ErrLimit},
		{1, 2, 0, full, api.OK},
		{0, 3, 1 << 32, over, api.ErrRange},
		{0, 2, 0, over, api.ErrRange},
		{1, 3, 1 << 32, over, api.ErrWire},
		{1, 5, 1 << 32, over, api.ErrRange},
	} {
		got, e := wire.Make(c.num, c.kind, c.n, c.b)
		if e != c.want || e != api.OK && !isZero(got) {
			t.Errorf("Make(%d, %d, %d, %d bytes): error %d, want %d", c.num, c.kind, c.n, len(c.b), e, c.want)
		}
	}
}

// P1.2: what a wire type does not have, is not in the record and no error.
func TestMakeLeavesOut(t *testing.T) {
	over := make([]byte, api.MaxBytes+1)
	for _, kind := range []int{0, 1, 5} {
		got, e := wire.Make(1, kind, 7, over)
		if e != api.OK || len(got.B) != 0 || !wire.Same(got, mustMake(t, 1, kind, 7, nil)) {
			t.Errorf("wire type %d: %d bytes, error %d", kind, len(got.B), e)
		}
	}
	got, e := wire.Make(1, 2, math.MaxUint64, []byte("x"))
	if e != api.OK || got.N != 0 || !wire.Same(got, mustMake(t, 1, 2, 0, []byte("x"))) {
		t.Errorf("bytes: number %d, error %d", got.N, e)
	}
}

// P1.2: a record with MaxBytes bytes is made, checked and read.
func TestMakeTheLongestRecord(t *testing.T) {
	b := bytes.Repeat([]byte{7}, api.MaxBytes)
	r := mustMake(t, 1, 2, 0, b)
	if e := wire.Check(r); e != api.OK || !bytes.Equal(r.B, b) {
		t.Errorf("Check: error %d, %d bytes", e, len(r.B))
	}
	if got, n, e := wire.Next(r.Raw); e != api.OK || n != len(r.Raw) || !wire.Same(got, r) {
		t.Errorf("Next: %d bytes read, error %d", n, e)
	}
}
