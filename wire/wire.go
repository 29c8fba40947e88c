// Package wire is layer 1: see shared/doc/01-wire.md.
package wire

import (
	"bytes"

	"signetry/api"
)

// The wire types that there are.
const (
	asVarint = 0
	asEight  = 1
	asBytes  = 2
	asFour   = 5
)

// Make is a record; b matters only as bytes (2), n only as a number (0, 1, 5).
func Make(num, wire int, n uint64, b []byte) (api.Rec, api.Errno) {
	if e := mayBe(num, wire, n, len(b)); e != api.OK {
		return api.Rec{}, e
	}
	r := api.Rec{Num: num, Wire: wire, Raw: appendVar(nil, uint64(num)<<3|uint64(wire))}
	switch wire {
	case asVarint:
		r.N, r.Raw = n, appendVar(r.Raw, n)
	case asEight:
		r.N, r.Raw = n, appendFixed(r.Raw, n, 8)
	case asFour:
		r.N, r.Raw = n, appendFixed(r.Raw, n, 4)
	case asBytes:
		r.B, r.Raw = own(b), append(appendVar(r.Raw, uint64(len(b))), b...)
	}
	return r, api.OK
}

// mayBe tells whether Make has such a record; size is the number of its bytes.
func mayBe(num, wire int, n uint64, size int) api.Errno {
	if num < 1 || num > api.MaxNum {
		return api.ErrRange
	}
	switch wire {
	case asVarint, asEight:
		return api.OK
	case asFour:
		if n >= 1<<32 {
			return api.ErrRange
		}
		return api.OK
	case asBytes:
		if size > api.MaxBytes {
			return api.ErrLimit
		}
		return api.OK
	}
	return api.ErrWire
}

// Next is the first record of b, and the number of its bytes.
func Next(b []byte) (r api.Rec, n int, e api.Errno) {
	in := reader{all: b}
	seen, e := in.record()
	if e != api.OK {
		return api.Rec{}, 0, e
	}
	return Copy(seen), in.at, api.OK
}

// Split is all records of b.
func Split(b []byte) ([]api.Rec, api.Errno) {
	if len(b) > api.MaxBytes {
		return nil, api.ErrLimit
	}
	var l []api.Rec
	in := reader{all: b}
	for in.at < len(b) {
		seen, e := in.record()
		if e != api.OK {
			return nil, e
		}
		l = append(l, Copy(seen))
	}
	return l, api.OK
}

// Check tells whether a record is what its own bytes say. Bytes behind it are
// found by Same: what was read would have a shorter Raw.
func Check(r api.Rec) api.Errno {
	in := reader{all: r.Raw}
	seen, e := in.record()
	if e != api.OK || !Same(seen, r) {
		return api.ErrArg
	}
	return api.OK
}

// Bytes is what records say, one after the other.
func Bytes(l []api.Rec) ([]byte, api.Errno) {
	total := 0
	for _, r := range l {
		if e := Check(r); e != api.OK {
			return nil, e
		}
		total += len(r.Raw)
	}
	// Nothing is allocated before the limit: the records of a list may share
	// their bytes, so that together they say far more than was handed in.
	if total > api.MaxBytes {
		return nil, api.ErrLimit
	}
	b := make([]byte, 0, total)
	for _, r := range l {
		b = append(b, r.Raw...)
	}
	return b, api.OK
}

// Same compares two records; nil bytes and no bytes are the same.
func Same(a, b api.Rec) bool {
	return a.Num == b.Num && a.Wire == b.Wire && a.N == b.N &&
		bytes.Equal(a.B, b.B) && bytes.Equal(a.Raw, b.Raw)
}

// Copy is a record in memory of its own. It need not be a valid one.
func Copy(r api.Rec) api.Rec {
	r.B, r.Raw = own(r.B), own(r.Raw)
	return r
}

// own copies bytes; no bytes become nil, so that none keep hold of the
// argument's memory.
func own(b []byte) []byte {
	return append([]byte(nil), b...)
}
