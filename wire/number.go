package wire

import (
	"math/bits"
)

// Var is b followed by the shortest varint of n. The spare capacity of b
// belongs to the caller, and so nothing is appended to b itself.
func Var(b []byte, n uint64) []byte {
	out := make([]byte, 0, len(b)+Size(n))
	return appendVar(append(out, b...), n)
}

// Size is the number of bytes of the shortest varint of n; that of 0 has one.
func Size(n uint64) int {
	return (bits.Len64(n|1) + 6) / 7
}

// Zig maps numbers to numbers from 0, such that small absolute values remain
// small.
func Zig(n int64) uint64 {
	return uint64(n)<<1 ^ uint64(n>>63)
}

// Zag undoes Zig.
func Zag(n uint64) int64 {
	return int64(n>>1) ^ -int64(n&1)
}

// appendVar is Var for memory of our own.
func appendVar(b []byte, n uint64) []byte {
	for n >= 0x80 {
		b = append(b, byte(n)|0x80)
		n >>= 7
	}
	return append(b, byte(n))
}

// appendFixed appends the lowest bytes of n, as many as size, lowest first.
func appendFixed(b []byte, n uint64, size int) []byte {
	for range size {
		b = append(b, byte(n))
		n >>= 8
	}
	return b
}
