package wire_test

import (
	"bytes"
	"math"
	"math/rand"
	"testing"

	"signetry/api"
	"signetry/wire"
)

// P1.4: Check takes what Make and Next return, the shortest or not.
func TestCheck(t *testing.T) {
	for _, r := range []api.Rec{
		mustMake(t, 1, 0, 150, nil),
		mustMake(t, api.MaxNum, 1, math.MaxUint64, nil),
		mustMake(t, 2, 2, 0, []byte("te")),
		mustMake(t, 2, 2, 0, nil),
		mustMake(t, 3, 5, 1, nil),
		{Num: 1, Wire: 0, N: 5, Raw: unhex(t, "88 00 85 00")},
		{Num: 1, Wire: 2, B: []byte("x"), Raw: unhex(t, "0a 81 00 78")},
		{Num: 1, Wire: 2, B: []byte{}, Raw: unhex(t, "0a 00")},
		{Num: 1, Wire: 0, B: []byte{}, Raw: unhex(t, "08 00")},
	} {
		if e := wire.Check(r); e != api.OK {
			t.Errorf("Check(%+v) = %d", r, e)
		}
	}
}

// P1.4: Check takes nothing else, and returns ErrArg whatever Next would.
func TestCheckErrors(t *testing.T) {
	for _, r := range []api.Rec{
		{},
		{Num: 1},
		{Num: 1, Wire: 0, N: 5},
		{Num: 1, Wire: 0, N: 5, Raw: unhex(t, "08")},
		{Num: 1, Wire: 0, N: 5, Raw: unhex(t, "08 05 00")},
		{Num: 1, Wire: 0, N: 5, Raw: unhex(t, "08 05 08 05")},
		{Num: 2, Wire: 0, N: 5, Raw: unhex(t, "08 05")},
		{Num: 1, Wire: 5, N: 5, Raw: unhex(t, "08 05")},
		{Num: 1, Wire: 0, N: 6, Raw: unhex(t, "08 05")},
		{Num: 1, Wire: 0, N: 5, B: []byte{5}, Raw: unhex(t, "08 05")},
		{Num: 1, Wire: 2, N: 1, B: []byte("x"), Raw: unhex(t, "0a 01 78")},
		{Num: 1, Wire: 2, B: []byte("y"), Raw: unhex(t, "0a 01 78")},
		{Num: 1, Wire: 2, Raw: unhex(t, "0a 01 78")},
		{Num: 1, Wire: 2, B: []byte("xx"), Raw: unhex(t, "0a 01 78")},
		{Num: 0, Wire: 0, N: 1, Raw: unhex(t, "00 01")},
		{Num: 1, Wire: 3, Raw: unhex(t, "0b")},
		{Num: -1, Wire: -1, Raw: unhex(t, "0b")},
		{Num: api.MaxNum + 1, Wire: 0, N: 1, Raw: unhex(t, "80 80 80 80 10 01")},
	} {
		if e := wire.Check(r); e != api.ErrArg {
			t.Errorf("Check(%+v) = %d", r, e)
		}
	}
	for _, c := range badRecords {
		if e := wire.Check(api.Rec{Num: 1, Raw: unhex(t, c.raw)}); e != api.ErrArg {
			t.Errorf("Check(%s) = %d", c.raw, e)
		}
	}
	over := append([]byte{0x0a, 0x81, 0x80, 0x40}, make([]byte, api.MaxBytes+1)...)
	if e := wire.Check(api.Rec{Num: 1, Wire: 2, B: over[4:], Raw: over}); e != api.ErrArg {
		t.Errorf("Check of MaxBytes and one more: %d", e)
	}
}

// P1.4: Bytes joins records as they are encoded.
func TestBytes(t *testing.T) {
	l := []api.Rec{
		mustMake(t, 2, 2, 0, []byte("te")),
		{Num: 1, Wire: 0, N: 5, Raw: unhex(t, "88 00 85 00")},
		mustMake(t, 1, 0, 150, nil),
		mustMake(t, 1, 0, 150, nil),
	}
	got, e := wire.Bytes(l)
	if want := unhex(t, "12 02 74 65 88 00 85 00 08 96 01 08 96 01"); e != api.OK || !bytes.Equal(got, want) {
		t.Errorf("%x, %d, want %x", got, e, want)
	}
	for _, none := range [][]api.Rec{nil, {}} {
		if got, e := wire.Bytes(none); e != api.OK || len(got) != 0 {
			t.Errorf("no records: %x, %d", got, e)
		}
	}
}

// P1.4: an invalid record anywhere comes ahead of the limit.
func TestBytesErrors(t *testing.T) {
	good, bad := mustMake(t, 1, 0, 1, nil), api.Rec{Num: 1, Raw: []byte{0x0b}}
	long := mustMake(t, 1, 2, 0, make([]byte, api.MaxBytes))
	for i, c := range []struct {
		l    []api.Rec
		want api.Errno
	}{
		{[]api.Rec{bad}, api.ErrArg},
		{[]api.Rec{{}}, api.ErrArg},
		{[]api.Rec{good, bad, good}, api.ErrArg},
		{[]api.Rec{good, good, bad}, api.ErrArg},
		{[]api.Rec{long}, api.ErrLimit},
		{[]api.Rec{good, long}, api.ErrLimit},
		{[]api.Rec{long, long, bad}, api.ErrArg},
	} {
		if got, e := wire.Bytes(c.l); e != c.want || len(got) != 0 {
			t.Errorf("%d: %d bytes, error %d, want %d", i, len(got), e, c.want)
		}
	}
}

// P1.4: MaxBytes bytes in total are joined; one more is ErrLimit.
func TestBytesLimit(t *testing.T) {
	small := mustMake(t, 1, 0, 1, nil)
	for _, c := range []struct {
		size int
		want api.Errno
	}{
		{api.MaxBytes, api.OK},
		{api.MaxBytes + 1, api.ErrLimit},
	} {
		rest := mustMake(t, 1, 2, 0, make([]byte, c.size-len(small.Raw)-4))
		if len(rest.Raw) != c.size-len(small.Raw) {
			t.Fatalf("%d bytes in the second record", len(rest.Raw))
		}
		got, e := wire.Bytes([]api.Rec{small, rest})
		if e != c.want || e == api.OK && len(got) != c.size || e != api.OK && len(got) != 0 {
			t.Errorf("%d: %d bytes, error %d, want %d", c.size, len(got), e, c.want)
		}
	}
}

// P1.4: Same compares each field; nil and empty lists are equal.
func TestSame(t *testing.T) {
	r := api.Rec{Num: 1, Wire: 2, N: 3, B: []byte("ab"), Raw: []byte("cd")}
	if !wire.Same(r, api.Rec{Num: 1, Wire: 2, N: 3, B: []byte("ab"), Raw: []byte("cd")}) {
		t.Error("equal fields are not the same")
	}
	if !wire.Same(api.Rec{B: []byte{}}, api.Rec{Raw: []byte{}}) {
		t.Error("nil and empty lists are not the same")
	}
	for i, other := range []api.Rec{
		{Num: 2, Wire: 2, N: 3, B: r.B, Raw: r.Raw},
		{Num: 1, Wire: 5, N: 3, B: r.B, Raw: r.Raw},
		{Num: 1, Wire: 2, N: 4, B: r.B, Raw: r.Raw},
		{Num: 1, Wire: 2, N: 3, B: []byte("ax"), Raw: r.Raw},
		{Num: 1, Wire: 2, N: 3, B: []byte("a"), Raw: r.Raw},
		{Num: 1, Wire: 2, N: 3, Raw: r.Raw},
		{Num: 1, Wire: 2, N: 3, B: r.B, Raw: []byte("xd")},
		{Num: 1, Wire: 2, N: 3, B: r.B, Raw: []byte("cde")},
		{Num: 1, Wire: 2, N: 3, B: r.B},
		{},
	} {
		if wire.Same(r, other) || wire.Same(other, r) {
			t.Errorf("%d: %+v is the same", i, other)
		}
	}
}

// P1.4: Copy keeps all fields, of records that are invalid too.
func TestCopy(t *testing.T) {
	for _, r := range []api.Rec{
		{},
		{Num: -1, Wire: 9, N: 3, B: []byte("ab"), Raw: []byte("cd")},
		{B: []byte{}, Raw: []byte{}},
		mustMake(t, 2, 2, 0, []byte("te")),
		mustMake(t, 3, 5, 7, nil),
	} {
		if got := wire.Copy(r); !wire.Same(got, r) {
			t.Errorf("Copy(%+v) = %+v", r, got)
		}
	}
}

// P1.6: bytes, split and joined, are the same bytes, and records the same.
func TestSplitAndJoin(t *testing.T) {
	r := rand.New(rand.NewSource(16))
	for range 2000 {
		var b []byte
		var l []api.Rec
		for range r.Intn(8) {
			raw := anyRecord(r)
			one, n, e := wire.Next(raw)
			if e != api.OK || n != len(raw) {
				t.Fatalf("Next(%x): %d bytes, error %d", raw, n, e)
			}
			b, l = append(b, raw...), append(l, one)
		}
		joined, e := wire.Bytes(l)
		if e != api.OK || !bytes.Equal(joined, b) {
			t.Fatalf("joined: %x, %d, want %x", joined, e, b)
		}
		split, e := wire.Split(b)
		if e != api.OK || len(split) != len(l) {
			t.Fatalf("Split(%x): %d records, error %d", b, len(split), e)
		}
		for i := range l {
			if !wire.Same(split[i], l[i]) {
				t.Fatalf("Split(%x): record %d is %+v, want %+v", b, i, split[i], l[i])
			}
		}
		again, e := wire.Bytes(split)
		if e != api.OK || !bytes.Equal(again, b) {
			t.Fatalf("joined again: %x, %d, want %x", again, e, b)
		}
	}
}

// P1.6: records that are made, joined and split, are the same records.
func TestMadeRecordsComeBack(t *testing.T) {
	r := rand.New(rand.NewSource(17))
	for range 2000 {
		var l []api.Rec
		for range r.Intn(8) {
			kind, n := []int{0, 1, 2, 5}[r.Intn(4)], anyNumber(r)
			if kind == 5 {
				n = uint64(uint32(n))
			}
			l = append(l, mustMake(t, 1+r.Intn(api.MaxNum)>>r.Intn(29), kind, n, anyBytes(r, r.Intn(9))))
		}
		b, e := wire.Bytes(l)
		split, f := wire.Split(b)
		if e != api.OK || f != api.OK || len(split) != len(l) {
			t.Fatalf("errors %d, %d, %d records of %d", e, f, len(split), len(l))
		}
		for i := range l {
			if !wire.Same(split[i], l[i]) {
				t.Fatalf("record %d is %+v, want %+v", i, split[i], l[i])
			}
		}
	}
}
