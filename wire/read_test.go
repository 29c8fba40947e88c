package wire_test

import (
	"bytes"
	"math"
	"math/rand"
	"slices"
	"testing"

	"signetry/api"
	"signetry/wire"
)

// P1.3: records as they are encoded, with more bytes than necessary too.
func TestNext(t *testing.T) {
	for _, c := range []struct {
		raw, behind string
		num, kind   int
		n           uint64
		b           string
	}{
		{"08 96 01", "", 1, 0, 150, ""},
		{"08 96 01", "12 00", 1, 0, 150, ""},
		{"08 00", "ff", 1, 0, 0, ""},
		{"88 00 00", "", 1, 0, 0, ""},
		{"88 80 80 80 80 80 80 80 80 00 05", "", 1, 0, 5, ""},
		{"08 96 81 80 80 80 80 80 80 80 00", "08", 1, 0, 150, ""},
		{"08 ff ff ff ff ff ff ff ff ff 01", "", 1, 0, math.MaxUint64, ""},
		{"f8 ff ff ff 0f 01", "", api.MaxNum, 0, 1, ""},
		{"09 08 07 06 05 04 03 02 81", "00", 1, 1, 0x8102030405060708, ""},
		{"12 02 74 65", "73", 2, 2, 0, "te"},
		{"12 00", "", 2, 2, 0, ""},
		{"12 80 00", "01", 2, 2, 0, ""},
		{"12 82 80 00 74 65", "", 2, 2, 0, "te"},
		{"1d 01 00 00 80", "00", 3, 5, 0x80000001, ""},
		{"9d 80 00 ff ff ff ff", "", 3, 5, 1<<32 - 1, ""},
	} {
		raw := unhex(t, c.raw)
		want := api.Rec{Num: c.num, Wire: c.kind, N: c.n, B: []byte(c.b), Raw: raw}
		got, n, e := wire.Next(slices.Concat(raw, unhex(t, c.behind)))
		if e != api.OK || n != len(raw) || !wire.Same(got, want) {
			t.Errorf("Next(%s, %s) = %+v, %d, %d", c.raw, c.behind, got, n, e)
		}
	}
}

// badRecords are bytes that do not begin with a record.
var badRecords = []struct {
	raw  string
	want api.Errno
}{
	// The bytes end inside a varint.
	{"80", api.ErrTrunc},
	{"88 80", api.ErrTrunc},
	{"ff ff ff ff ff ff ff ff ff", api.ErrTrunc},
	{"08", api.ErrTrunc},
	{"08 96", api.ErrTrunc},
	{"08 ff ff ff ff ff ff ff ff ff", api.ErrTrunc},
	{"12", api.ErrTrunc},
	{"12 80", api.ErrTrunc},
	// The 10th byte of a varint is greater than 1, or there is an 11th.
	{"88 80 80 80 80 80 80 80 80 02 00", api.ErrForm},
	{"88 80 80 80 80 80 80 80 80 80 00 00", api.ErrForm},
	{"88 80 80 80 80 80 80 80 80 81 00 00", api.ErrForm},
	{"08 ff ff ff ff ff ff ff ff ff 02", api.ErrForm},
	{"08 80 80 80 80 80 80 80 80 80 7f", api.ErrForm},
	{"08 80 80 80 80 80 80 80 80 80 80 00", api.ErrForm},
	{"08 80 80 80 80 80 80 80 80 80 81", api.ErrForm},
	{"12 80 80 80 80 80 80 80 80 80 80 00", api.ErrForm},
	{"12 80 80 80 80 80 80 80 80 80 02", api.ErrForm},
	// The number of the record is 0, or too great: of no matter what type.
	{"00 01", api.ErrForm},
	{"00", api.ErrForm},
	{"02 80", api.ErrForm},
	{"07", api.ErrForm},
	{"80 00 01", api.ErrForm},
	{"80 80 80 80 10 01", api.ErrForm},
	{"83 80 80 80 10", api.ErrForm},
	{"f8 ff ff ff 1f 01", api.ErrForm},
	{"88 80 80 80 80 80 80 80 80 01 00", api.ErrForm},
	{"ff ff ff ff ff ff ff ff ff 01", api.ErrForm},
	// There is no such wire type.
	{"0b", api.ErrWire},
	{"0c", api.ErrWire},
	{"0e", api.ErrWire},
	{"0f", api.ErrWire},
	{"0b 80", api.ErrWire},
	{"fb ff ff ff 0f 00", api.ErrWire},
	// Too many bytes are announced, also more than an int can count.
	{"12 81 80 40", api.ErrLimit},
	{"12 ff ff ff ff 0f 00", api.ErrLimit},
	{"12 80 80 80 80 80 80 80 80 80 01", api.ErrLimit},
	{"12 ff ff ff ff ff ff ff ff ff 01", api.ErrLimit},
	// Fewer bytes remain than there should be.
	{"12 80 80 40", api.ErrTrunc},
	{"12 01", api.ErrTrunc},
	{"12 03 74 65", api.ErrTrunc},
	{"09", api.ErrTrunc},
	{"09 01 02 03 04 05 06 07", api.ErrTrunc},
	{"0d", api.ErrTrunc},
	{"0d 01 02 03", api.ErrTrunc},
}

// P1.3: errors of Next, and of Split behind a record that is one.
func TestReadErrors(t *testing.T) {
	for _, c := range badRecords {
		b := unhex(t, c.raw)
		if r, n, e := wire.Next(b); e != c.want || n != 0 || !isZero(r) {
			t.Errorf("Next(%s) = %+v, %d, %d, want error %d", c.raw, r, n, e, c.want)
		}
		if l, e := wire.Split(b); e != c.want || len(l) != 0 {
			t.Errorf("Split(%s) = %+v, %d, want error %d", c.raw, l, e, c.want)
		}
		if l, e := wire.Split(append(unhex(t, "08 00"), b...)); e != c.want || len(l) != 0 {
			t.Errorf("Split(08 00 %s) = %+v, %d, want error %d", c.raw, l, e, c.want)
		}
	}
	for _, b := range [][]byte{nil, {}} {
		if r, n, e := wire.Next(b); e != api.ErrTrunc || n != 0 || !isZero(r) {
			t.Errorf("Next of no bytes: %+v, %d, %d", r, n, e)
		}
	}
}

// P1.3: Next has no limit of its own for what comes behind the record.
func TestNextOfManyBytes(t *testing.T) {
	b := make([]byte, 3*api.MaxBytes)
	copy(b, []byte{0x08, 0x05})
	if r, n, e := wire.Next(b); e != api.OK || n != 2 || r.N != 5 {
		t.Errorf("%+v, %d, %d", r, n, e)
	}
}

// P1.3: all records, in order.
func TestSplit(t *testing.T) {
	parts := []string{"08 96 01", "12 00", "12 00", "1d 01 00 00 00", "08 96 81 00", "09 00 00 00 00 00 00 00 00"}
	var all []byte
	for _, p := range parts {
		all = append(all, unhex(t, p)...)
	}
	l, e := wire.Split(all)
	if e != api.OK || len(l) != len(parts) {
		t.Fatalf("%d records, error %d", len(l), e)
	}
	for i, p := range parts {
		want, _, e := wire.Next(unhex(t, p))
		if e != api.OK || !wire.Same(l[i], want) {
			t.Errorf("record %d is %+v, want %+v", i, l[i], want)
		}
	}
	for _, b := range [][]byte{nil, {}} {
		if l, e := wire.Split(b); e != api.OK || len(l) != 0 {
			t.Errorf("no bytes: %d records, error %d", len(l), e)
		}
	}
}

// P1.3: Split takes MaxBytes bytes; one more is an error ahead of all others.
func TestSplitLimit(t *testing.T) {
	b := bytes.Repeat([]byte{0x08, 0x01}, api.MaxBytes/2)
	if l, e := wire.Split(b); e != api.OK || len(l) != api.MaxBytes/2 {
		t.Errorf("MaxBytes: %d records, error %d", len(l), e)
	}
	for _, first := range []byte{0x08, 0x00, 0x0b} {
		over := append(bytes.Repeat([]byte{first, 0x01}, api.MaxBytes/2), 0x08)
		if l, e := wire.Split(over); e != api.ErrLimit || len(l) != 0 {
			t.Errorf("MaxBytes and one more: %d records, error %d", len(l), e)
		}
	}
}

// P1.3: all bytes of length up to 2, and many others, against a second reader.
func TestNextAgainstASecondReader(t *testing.T) {
	agree := func(b []byte) {
		t.Helper()
		want, m, f := secondReader(b)
		got, n, e := wire.Next(b)
		if e != f || n != m || !wire.Same(got, want) {
			t.Fatalf("Next(%x) = %+v, %d, %d, want %+v, %d, %d", b, got, n, e, want, m, f)
		}
	}
	for i := range 256 {
		agree([]byte{byte(i)})
		for j := range 256 {
			agree([]byte{byte(i), byte(j)})
		}
	}
	r := rand.New(rand.NewSource(13))
	for range 100000 {
		b := slices.Concat(anyRecord(r), anyRecord(r))
		for range r.Intn(3) {
			b[r.Intn(len(b))] = byte(r.Intn(256)) >> r.Intn(8)
		}
		agree(b[:r.Intn(len(b)+1)])
	}
}

// secondReader is Next by other means: it searches the end of a varint first.
func secondReader(b []byte) (api.Rec, int, api.Errno) {
	tag, at, e := secondVarint(b)
	switch {
	case e != api.OK:
		return api.Rec{}, 0, e
	case tag < 8 || tag >= 1<<32:
		return api.Rec{}, 0, api.ErrForm
	}
	r := api.Rec{Num: int(tag / 8), Wire: int(tag % 8)}
	size := 0
	switch r.Wire {
	case 0, 2:
		n, more, e := secondVarint(b[at:])
		if e == api.OK && r.Wire == 2 && n > api.MaxBytes {
			e = api.ErrLimit
		}
		if e != api.OK {
			return api.Rec{}, 0, e
		}
		at += more
		if r.Wire == 0 {
			r.N = n
		} else {
			size = int(n)
		}
	case 1:
		size = 8
	case 5:
		size = 4
	default:
		return api.Rec{}, 0, api.ErrWire
	}
	if at+size > len(b) {
		return api.Rec{}, 0, api.ErrTrunc
	}
	if r.Wire == 2 {
		r.B = b[at : at+size]
	} else {
		for i := size - 1; i >= 0; i-- {
			r.N = r.N*256 + uint64(b[at+i])
		}
	}
	r.Raw = b[:at+size]
	return r, at + size, api.OK
}

func secondVarint(b []byte) (n uint64, size int, e api.Errno) {
	end := slices.IndexFunc(b, func(c byte) bool { return c < 128 })
	switch {
	case end > 9 || len(b) > 9 && b[9] > 1 && (end < 0 || end == 9):
		return 0, 0, api.ErrForm
	case end < 0:
		return 0, 0, api.ErrTrunc
	}
	for i := end; i >= 0; i-- {
		n = n*128 + uint64(b[i]%128)
	}
	return n, end + 1, api.OK
}

// P1.8: cut off anywhere, the records before are read, and then it is ErrTrunc.
func TestCutOff(t *testing.T) {
	r := rand.New(rand.NewSource(18))
	for range 300 {
		var all []byte
		ends := []int{0}
		for range 1 + r.Intn(6) {
			all = append(all, anyRecord(r)...)
			ends = append(ends, len(all))
		}
		whole, e := wire.Split(all)
		if e != api.OK || len(whole) != len(ends)-1 {
			t.Fatalf("Split(%x): %d records, error %d", all, len(whole), e)
		}
		for cut := range len(all) + 1 {
			checkCut(t, all[:cut], whole, ends)
		}
	}
}

// checkCut reads b, which is cut off; whole are the records of the bytes that
// were cut off, and ends is where they ended.
func checkCut(t *testing.T, b []byte, whole []api.Rec, ends []int) {
	t.Helper()
	at, count := 0, 0
	for at < len(b) {
		r, n, e := wire.Next(b[at:])
		if e == api.ErrTrunc {
			break
		}
		if e != api.OK || n == 0 || !wire.Same(r, whole[count]) {
			t.Fatalf("%x at %d: %+v, %d, %d", b, at, r, n, e)
		}
		at, count = at+n, count+1
	}
	want := 0
	for want+1 < len(ends) && ends[want+1] <= len(b) {
		want++
	}
	if count != want || at != ends[want] {
		t.Fatalf("%x: %d records to %d, want %d to %d", b, count, at, want, ends[want])
	}
	l, e := wire.Split(b)
	if at == len(b) && (e != api.OK || len(l) != want) || at < len(b) && (e != api.ErrTrunc || len(l) != 0) {
		t.Fatalf("Split(%x): %d records, error %d", b, len(l), e)
	}
}
