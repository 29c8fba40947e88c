package value_test

import (
	"bytes"
	"math/rand"
	"strings"
	"testing"

	"signetry/api"
	"signetry/value"
)

// inOrder is integers and bytes, each list strictly increasing.
func inOrder() [][]api.Val {
	var ints []api.Val
	for _, s := range wholes {
		if s == "0" {
			ints = append(ints, whole("-0"))
		}
		ints = append(ints, whole(s))
	}
	var texts []api.Val
	for _, s := range []string{"", "\x00", "\x00\x00", "\x00\xff", "\x01", "A", "Z", "a", "a\x00", "aa", "aaa", "aab", "ab", "b", "\x7f", "\x80", "\xc3", "ä", "ää", "\xff", "\xff\x00", "\xff\xff"} {
		texts = append(texts, str(s))
	}
	return [][]api.Val{ints, texts}
}

// P11.2, P11.6: integers by their numbers (a 0 with a sign ahead of 0), bytes bytewise.
func TestLess(t *testing.T) {
	for _, l := range inOrder() {
		for i, a := range l {
			for j, b := range l {
				if value.Less(a, b) != (i < j) {
					t.Errorf("%s and %s: %t", told(a), told(b), i >= j)
				}
			}
		}
	}
}

// P11.2: nothing else is less: not values of two kinds, nor of any other kind.
func TestNotLess(t *testing.T) {
	all := different()
	for _, l := range inOrder() {
		all = append(all, l...)
	}
	for _, a := range all {
		for _, b := range all {
			if a.Kind == b.Kind && (a.Kind == api.KInt || a.Kind == api.KBytes) {
				continue
			}
			if value.Less(a, b) {
				t.Errorf("%s is less than %s", told(a), told(b))
			}
		}
	}
	for _, kind := range []int{api.KF32, api.KF64, api.KMsg, 0, 6, -1} {
		for _, b := range []api.Val{{Mag: 5}, {Mag: 6}, {Mag: 5, Neg: true}, {B: []byte("a")}, {B: []byte("b")}} {
			a := api.Val{Kind: kind, Mag: 5, B: []byte("a")}
			b.Kind = kind
			if value.Less(a, b) || value.Less(b, a) {
				t.Errorf("%s and %s have an order", told(a), told(b))
			}
		}
	}
}

// P11.2: only what a kind has counts.
func TestLessCounts(t *testing.T) {
	more := []func(v *api.Val){func(v *api.Val) { v.Name = "M" }, func(v *api.Val) { v.F = []api.Slot{slot(1, num(1))} }}
	for _, change := range append(more, func(v *api.Val) { v.B = []byte("z") }) {
		a, b := num(3), num(4)
		change(&a)
		if !value.Less(a, b) || value.Less(b, a) || value.Less(a, num(3)) || value.Less(num(3), a) {
			t.Errorf("%s and %s", told(a), told(b))
		}
	}
	for _, change := range append(more, func(v *api.Val) { v.Mag = 7 }, func(v *api.Val) { v.Neg = true }) {
		a, b := str("a"), str("b")
		change(&a)
		if !value.Less(a, b) || value.Less(b, a) || value.Less(a, str("a")) || value.Less(str("a"), a) {
			t.Errorf("%s and %s", told(a), told(b))
		}
	}
}

// randomKeys is keys of one kind, many of them alike.
func randomKeys(r *rand.Rand) (l []api.Val) {
	isInt := r.Intn(2) == 0
	for range 8 {
		switch {
		case isInt && r.Intn(2) == 0:
			l = append(l, whole(pick(r, wholes)))
		case isInt:
			n := r.Uint64() >> r.Intn(64)
			l = append(l, api.Val{Kind: api.KInt, Mag: n, Neg: n > 0 && r.Intn(2) == 0})
		default:
			b := make([]byte, r.Intn(4))
			for i := range b {
				b[i] = pick(r, []byte{0, 1, 'a', 'b', 0x7f, 0x80, 0xff})
			}
			l = append(l, api.Val{Kind: api.KBytes, B: b})
		}
	}
	return l
}

// P11.6: of two different keys one is less, and it is an order.
func TestLessIsAnOrder(t *testing.T) {
	r := rand.New(rand.NewSource(3))
	for range 3000 {
		l := randomKeys(r)
		for _, a := range l {
			for _, b := range l {
				want := bytes.Compare(a.B, b.B)
				if a.Kind == api.KInt {
					want = bigOf(strings.Fields(told(a))[1:]...).Cmp(bigOf(strings.Fields(told(b))[1:]...))
				}
				if value.Less(a, b) != (want < 0) || value.Less(b, a) != (want > 0) || value.Same(a, b) != (want == 0) {
					t.Errorf("%s and %s: %t, %t, want %d", told(a), told(b), value.Less(a, b), value.Less(b, a), want)
				}
				for _, c := range l {
					if value.Less(a, b) && value.Less(b, c) && !value.Less(a, c) {
						t.Errorf("%s, %s, %s", told(a), told(b), told(c))
					}
				}
			}
		}
	}
}
