package wire_test

import (
	"bytes"
	"encoding/binary"
	"math"
	"math/big"
	"math/rand"
	"testing"

	"signetry/wire"
)

// edges are numbers around all powers of two, and some others.
func edges() []uint64 {
	l := []uint64{0, math.MaxUint64}
	for i := 0; i < 64; i++ {
		n := uint64(1) << i
		l = append(l, n-1, n, n+1, -n, ^n)
	}
	r := rand.New(rand.NewSource(11))
	for i := 0; i < 2000; i++ {
		l = append(l, anyNumber(r))
	}
	return l
}

// P1.1: Var and Size, with the ends of each number of bytes.
func TestVarAndSize(t *testing.T) {
	for _, c := range []struct {
		n    uint64
		want string
	}{
		{0, "00"},
		{1, "01"},
		{127, "7f"},
		{128, "80 01"},
		{300, "ac 02"},
		{1<<14 - 1, "ff 7f"},
		{1 << 14, "80 80 01"},
		{1<<32 - 1, "ff ff ff ff 0f"},
		{1<<63 - 1, "ff ff ff ff ff ff ff ff 7f"},
		{1 << 63, "80 80 80 80 80 80 80 80 80 01"},
		{math.MaxUint64, "ff ff ff ff ff ff ff ff ff 01"},
	} {
		want := unhex(t, c.want)
		if got := wire.Var(nil, c.n); !bytes.Equal(got, want) {
			t.Errorf("Var(%d) = %x, want %x", c.n, got, want)
		}
		if got := wire.Size(c.n); got != len(want) {
			t.Errorf("Size(%d) = %d, want %d", c.n, got, len(want))
		}
	}
}

// P1.1: Var and Size agree with the library, and Var keeps what is before.
func TestVarOfManyNumbers(t *testing.T) {
	for _, n := range edges() {
		want := binary.AppendUvarint([]byte("before"), n)
		if got := wire.Var([]byte("before"), n); !bytes.Equal(got, want) {
			t.Errorf("Var(before, %d) = %x, want %x", n, got, want)
		}
		if got := wire.Size(n); got != len(want)-len("before") {
			t.Errorf("Size(%d) = %d", n, got)
		}
	}
}

// P1.1: Zig and Zag, with both ends.
func TestZigAndZag(t *testing.T) {
	for _, c := range []struct {
		n   int64
		zig uint64
	}{
		{0, 0}, {-1, 1}, {1, 2}, {-2, 3}, {2, 4},
		{math.MaxInt32, 1<<32 - 2}, {math.MinInt32, 1<<32 - 1},
		{math.MaxInt64, math.MaxUint64 - 1}, {math.MinInt64, math.MaxUint64},
	} {
		if got := wire.Zig(c.n); got != c.zig {
			t.Errorf("Zig(%d) = %d, want %d", c.n, got, c.zig)
		}
		if got := wire.Zag(c.zig); got != c.n {
			t.Errorf("Zag(%d) = %d, want %d", c.zig, got, c.n)
		}
	}
}

// P1.1: Zig is 2 n, or -2 n - 1, as numbers without bounds.
func TestZigByItsRule(t *testing.T) {
	for _, u := range edges() {
		n := big.NewInt(int64(u))
		want := new(big.Int).Mul(n, big.NewInt(2))
		if n.Sign() < 0 {
			want.Neg(want)
			want.Sub(want, big.NewInt(1))
		}
		if got := wire.Zig(int64(u)); !want.IsUint64() || got != want.Uint64() {
			t.Errorf("Zig(%v) = %d, want %v", n, got, want)
		}
	}
}

// P1.7: each undoes the other.
func TestZigAndZagUndoEachOther(t *testing.T) {
	for _, n := range edges() {
		if got := wire.Zag(wire.Zig(int64(n))); got != int64(n) {
			t.Errorf("Zag(Zig(%d)) = %d", int64(n), got)
		}
		if got := wire.Zig(wire.Zag(n)); got != n {
			t.Errorf("Zig(Zag(%d)) = %d", n, got)
		}
	}
}

// P1.7: a smaller absolute value has no greater Zig, except by 1.
func TestZigKeepsTheOrderOfSizes(t *testing.T) {
	l := edges()
	l = l[:500]
	for _, x := range l {
		for _, y := range l {
			a, b := int64(x), int64(y)
			if size(a) > size(b) {
				continue
			}
			za, zb := wire.Zig(a), wire.Zig(b)
			if za > zb && za-zb > 1 {
				t.Fatalf("Zig(%d) = %d, Zig(%d) = %d", a, za, b, zb)
			}
		}
	}
}

// size is the absolute value of n.
func size(n int64) uint64 {
	if n < 0 {
		return -uint64(n)
	}
	return uint64(n)
}
