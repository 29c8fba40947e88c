package wire_test

import (
	"encoding/hex"
	"math/rand"
	"strings"
	"testing"

	"signetry/api"
	"signetry/wire"
)

// unhex reads bytes that are written in hexadecimal, with blanks anywhere.
func unhex(t *testing.T, s string) []byte {
	t.Helper()
	b, err := hex.DecodeString(strings.ReplaceAll(s, " ", ""))
	if err != nil {
		t.Fatal(err)
	}
	return b
}

// mustMake is a record that may be made.
func mustMake(t *testing.T, num, kind int, n uint64, b []byte) api.Rec {
	t.Helper()
	r, e := wire.Make(num, kind, n, b)
	if e != api.OK {
		t.Fatalf("Make(%d, %d, %d, %d bytes): error %d", num, kind, n, len(b), e)
	}
	return r
}

// isZero tells whether a record is the one beside an error.
func isZero(r api.Rec) bool {
	return wire.Same(r, api.Rec{})
}

// longVar is a varint with that many bytes, of which some may be unnecessary.
func longVar(n uint64, size int) []byte {
	var b []byte
	for i := 0; i < size; i++ {
		c := byte(n & 0x7f)
		n >>= 7
		if i < size-1 {
			c |= 0x80
		}
		b = append(b, c)
	}
	return b
}

// anyNumber is a number of any size.
func anyNumber(r *rand.Rand) uint64 {
	return r.Uint64() >> r.Intn(64)
}

// anyVar is a varint of n that may have unnecessary bytes.
func anyVar(r *rand.Rand, n uint64) []byte {
	least := wire.Size(n)
	return longVar(n, least+r.Intn(11-least))
}

// anyRecord is the bytes of a record, not always the shortest ones.
func anyRecord(r *rand.Rand) []byte {
	num := 1 + uint64(r.Intn(api.MaxNum))>>r.Intn(29)
	kind := []uint64{0, 1, 2, 5}[r.Intn(4)]
	b := anyVar(r, num<<3|kind)
	switch kind {
	case 0:
		return append(b, anyVar(r, anyNumber(r))...)
	case 1:
		return append(b, anyBytes(r, 8)...)
	case 5:
		return append(b, anyBytes(r, 4)...)
	}
	size := r.Intn(20)
	b = append(b, anyVar(r, uint64(size))...)
	return append(b, anyBytes(r, size)...)
}

func anyBytes(r *rand.Rand, size int) []byte {
	b := make([]byte, size)
	r.Read(b)
	return b
}
