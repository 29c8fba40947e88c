package kinds_test

import (
	"math"
	"math/big"
	"math/rand"
	"testing"

	"signetry/kinds"
)

// mags is magnitudes around all powers of two, and others.
func mags() []uint64 {
	l := []uint64{0, 3, 5, 10, 1000, 1e18, math.MaxUint64, math.MaxUint64 - 1}
	for i := range 64 {
		l = append(l, 1<<i-1, 1<<i, 1<<i+1)
	}
	r := rand.New(rand.NewSource(1))
	for range 200 {
		l = append(l, r.Uint64()>>r.Intn(64))
	}
	return l
}

// secondHolds is what Holds has to return.
func secondHolds(t int, neg bool, mag uint64) bool {
	n := new(big.Int).SetUint64(mag)
	if neg {
		n.Neg(n)
	}
	r, _ := rowOf(t)
	return r.least != nil && (!neg || mag != 0) && r.least.Cmp(n) <= 0 && n.Cmp(r.greatest) <= 0
}

// P17.2: all types, and numbers that are none, with magnitudes at all powers of
// two.
func TestHolds(t *testing.T) {
	for _, n := range append([]int{0, 10, 19, -1, -5, math.MaxInt, math.MinInt}, types()...) {
		for _, mag := range mags() {
			for _, neg := range []bool{false, true} {
				if got, want := kinds.Holds(n, neg, mag), secondHolds(n, neg, mag); got != want {
					t.Errorf("Holds of %d, %t, %d is %t", n, neg, mag, got)
				}
			}
		}
	}
}

// P17.2: both ends of what each type holds: an end is held, what is beyond it is
// not.
func TestEndsOfTypes(t *testing.T) {
	one := big.NewInt(1)
	ends := 0
	for _, r := range writtenRows() {
		if r.least == nil {
			continue
		}
		for _, c := range []struct {
			n    *big.Int
			want bool
		}{
			{r.least, true}, {r.greatest, true},
			{new(big.Int).Sub(r.least, one), false}, {new(big.Int).Add(r.greatest, one), false},
		} {
			mag := new(big.Int).Abs(c.n)
			// 2^64 is no magnitude at all.
			if !mag.IsUint64() {
				continue
			}
			ends++
			if got := kinds.Holds(r.number, c.n.Sign() < 0, mag.Uint64()); got != c.want {
				t.Errorf("Holds of %s, %d is %t", r.name, c.n, got)
			}
		}
	}
	if ends != 12*4-2 {
		t.Errorf("there are %d ends", ends)
	}
}

// P17.2: 0 has no sign: each integer type holds it without one, and none with one.
func TestZero(t *testing.T) {
	for _, r := range writtenRows() {
		if got := kinds.Holds(r.number, false, 0); got != (r.least != nil) {
			t.Errorf("Holds of %d, 0 is %t", r.number, got)
		}
		if kinds.Holds(r.number, true, 0) {
			t.Errorf("%d holds -0", r.number)
		}
	}
}

// secondWithin is what Within has to return.
func secondWithin(a, b int) bool {
	x, _ := rowOf(a)
	y, _ := rowOf(b)
	return x.least != nil && y.least != nil && y.least.Cmp(x.least) <= 0 && x.greatest.Cmp(y.greatest) <= 0
}

// P17.2: every two types, and numbers that are none.
func TestWithin(t *testing.T) {
	all := append(types(), none()[:20]...)
	for _, a := range all {
		for _, b := range all {
			if got, want := kinds.Within(a, b), secondWithin(a, b); got != want {
				t.Errorf("Within of %d, %d is %t", a, b, got)
			}
		}
	}
}

// P17.2: a type is within another one if and only if that holds everything that
// it holds.
func TestWithinByHolds(t *testing.T) {
	for _, a := range types() {
		for _, b := range types() {
			want := kinds.Domain(a) == 1 && kinds.Domain(b) == 1
			for _, mag := range mags() {
				for _, neg := range []bool{false, true} {
					want = want && (!kinds.Holds(a, neg, mag) || kinds.Holds(b, neg, mag))
				}
			}
			if got := kinds.Within(a, b); got != want {
				t.Errorf("Within of %d, %d is %t", a, b, got)
			}
		}
	}
}

// P17.5: Within is reflexive and transitive, and types that are within each other
// hold the same integers.
func TestWithinIsPreorder(t *testing.T) {
	for _, a := range types() {
		if kinds.Within(a, a) != (kinds.Domain(a) == 1) {
			t.Errorf("Within of %d, %d is %t", a, a, kinds.Within(a, a))
		}
		for _, b := range types() {
			for _, c := range types() {
				if kinds.Within(a, b) && kinds.Within(b, c) && !kinds.Within(a, c) {
					t.Errorf("%d is within %d, and that within %d", a, b, c)
				}
			}
			if !kinds.Within(a, b) || !kinds.Within(b, a) {
				continue
			}
			for _, mag := range mags() {
				for _, neg := range []bool{false, true} {
					if kinds.Holds(a, neg, mag) != kinds.Holds(b, neg, mag) {
						t.Errorf("one of %d and %d holds %t, %d", a, b, neg, mag)
					}
				}
			}
		}
	}
}
