package value_test

import (
	"math/rand"
	"reflect"
	"slices"
	"testing"

	"signetry/api"
	"signetry/value"
)

// different is values of which no two are the same.
func different() []api.Val {
	return []api.Val{
		{}, {Kind: -1}, {Kind: 6}, {Neg: true}, {Mag: 1}, {B: []byte{0}}, {Name: "M"}, {F: []api.Slot{{}}},
		num(0), whole("-0"), num(1), num(-1), num(2), num(256), whole("4294967297"), whole("18446744073709551615"),
		f32(0), f32(1), f32(0x80000000), f64(0), f64(1), f64(0x80000000), f64(1 << 63),
		str(""), str("\x00"), str("a"), str("b"), str("ab"), str("ba"), str("\xff"), str("aa"),
		msg(""), msg("M"), msg("N"), msg("MM"), msg("m"),
		{Kind: api.KInt, Name: "M"}, {Kind: api.KInt, B: []byte("a")}, {Kind: api.KInt, F: []api.Slot{{}}}, {Kind: api.KBytes, Mag: 1}, {Kind: api.KMsg, Neg: true},
		msg("M", slot(0)), msg("M", slot(1)), msg("M", slot(-1)), msg("M", slot(1), slot(1)), msg("M", slot(1), slot(2)), msg("M", slot(2), slot(1)),
		msg("M", slot(1, num(1))), msg("M", slot(1, num(0))), msg("M", slot(2, num(1))), msg("M", slot(1, num(1), num(1))), msg("M", slot(1, num(1), num(0))),
		msg("M", slot(1, num(0), num(1))), msg("M", slot(1, num(1)), slot(1, num(1))), msg("M", slot(1, num(1)), slot(2)), msg("M", slot(1), slot(1, num(1))), msg("N", slot(1, num(1))),
		msg("M", slot(1, msg("M", slot(1, num(1))))), msg("M", slot(1, msg("M", slot(1, num(2))))), msg("M", slot(1, msg("M"), msg("M"))), msg("M", slot(1, msg("M", slot(1, msg("M"))))),
		entry(num(1), num(1)), entry(num(1), num(2)), entry(num(2), num(1)),
	}
}

// P11.2: a value is the same as itself and as its copy, and as no other one: all of
// its fields count.
func TestSame(t *testing.T) {
	l := different()
	for i, a := range l {
		for j, b := range l {
			if value.Same(a, b) != (i == j) || value.Same(value.Copy(a), value.Copy(b)) != (i == j) {
				t.Errorf("%s and %s: %t", told(a), told(b), value.Same(a, b))
			}
			around := func(v api.Val) api.Val { return msg("M", slot(1, num(1)), slot(2, str("a"), v), slot(3, num(1))) }
			if value.Same(around(a), around(b)) != (i == j) {
				t.Errorf("%s and %s inside: %t", told(a), told(b), value.Same(around(a), around(b)))
			}
		}
	}
}

// P11.2: nil and empty lists are equal, everywhere.
func TestNilAndEmpty(t *testing.T) {
	empty := func(v api.Val) api.Val {
		v.B, v.F = append([]byte{}, v.B...), append([]api.Slot{}, v.F...)
		for i, x := range v.F {
			v.F[i].L = append([]api.Val{}, x.L...)
			for j := range v.F[i].L {
				v.F[i].L[j].B, v.F[i].L[j].F = append([]byte{}, x.L[j].B...), append([]api.Slot{}, x.L[j].F...)
			}
		}
		return v
	}
	for _, v := range different() {
		if !value.Same(v, empty(v)) || !value.Same(empty(v), v) || !value.SameAll([]api.Val{v}, []api.Val{empty(v)}) {
			t.Errorf("%#v and %#v differ", v, empty(v))
		}
		is(t, "the copy of one with empty lists", value.Copy(empty(v)), v)
	}
	for _, a := range [][]api.Val{nil, {}} {
		for _, b := range [][]api.Val{nil, {}} {
			if !value.SameAll(a, b) || !value.Same(msg("M", slot(1, a...)), msg("M", slot(1, b...))) {
				t.Errorf("%#v and %#v differ", a, b)
			}
		}
	}
}

// P11.2: lists are the same if they have the same values in the same order.
func TestSameAll(t *testing.T) {
	a, b, c := num(1), str("a"), msg("M", slot(1, num(1)))
	lists := [][]api.Val{nil, {a}, {b}, {c}, {a, a}, {a, b}, {b, a}, {a, b, c}, {a, c, b}, {b, a, c}, {c, b, a}, {a, a, a}, {{}}, {{}, {}}}
	for i, x := range lists {
		for j, y := range lists {
			if value.SameAll(x, y) != (i == j) {
				t.Errorf("%s and %s: %t", toldAll(x), toldAll(y), value.SameAll(x, y))
			}
		}
	}
	all := different()
	if !value.SameAll(all, different()) {
		t.Error("all values")
	}
	for i := range all {
		other := slices.Clone(all)
		other[i] = msg("other")
		if value.SameAll(all, other) || value.SameAll(other, all) || value.SameAll(all, slices.Delete(slices.Clone(all), i, i+1)) {
			t.Errorf("all values but %d", i)
		}
	}
}

// P11.2: a copy is the same, with all that is in it, whatever that is.
func TestCopy(t *testing.T) {
	for _, v := range different() {
		is(t, "copy", value.Copy(v), v)
		if c := value.Copy(v); !deepEqual(c, v) {
			t.Errorf("%#v, want %#v", c, v)
		}
	}
	r := rand.New(rand.NewSource(1))
	for range 2000 {
		v := anything(r, 4)
		if c := value.Copy(v); !deepEqual(c, v) || !value.Same(c, v) {
			t.Errorf("%#v, want %#v", c, v)
		}
	}
}

// P11.2: random values are the same if they are equal.
func TestSameRandom(t *testing.T) {
	r := rand.New(rand.NewSource(2))
	same := 0
	for range 20000 {
		a := anything(r, 3)
		b := anything(r, 3)
		if r.Intn(2) == 0 {
			b = value.Copy(a)
			all := parts(reflect.ValueOf(&b).Elem())
			if r.Intn(2) == 0 {
				change(r, pick(r, all))
			}
		}
		want := deepEqual(a, b)
		if value.Same(a, b) != want || value.Same(b, a) != want || value.SameAll([]api.Val{a, b}, []api.Val{b, a}) != want {
			t.Errorf("%#v and %#v: %t", a, b, !want)
		}
		if want {
			same++
		}
	}
	if same < 1000 || same > 19000 {
		t.Errorf("%d are the same", same)
	}
}

// P11.2: of numbers the magnitude alone counts, of bytes whether there are any; a
// message is no zero value, nor is what is of no kind.
func TestIsZero(t *testing.T) {
	for _, v := range []api.Val{
		num(0), whole("-0"), f32(0), f64(0), str(""), {Kind: api.KBytes, B: []byte{}},
		{Kind: api.KInt, B: []byte("a"), Name: "M", F: []api.Slot{slot(1, num(1))}},
		{Kind: api.KF32, Neg: true, B: []byte("a")}, {Kind: api.KF64, Neg: true, Name: "M"},
		{Kind: api.KBytes, Mag: 1, Neg: true}, {Kind: api.KBytes, Name: "M", F: []api.Slot{slot(1, num(1))}},
	} {
		if !value.IsZero(v) {
			t.Errorf("%s is not", told(v))
		}
	}
	for _, v := range []api.Val{
		num(1), num(-1), whole("18446744073709551615"), whole("9223372036854775808"), whole("4294967296"), f32(1), f32(0x80000000), f32(1 << 32), f64(1), f64(1 << 63), f64(1 << 32),
		str("a"), str("\x00"), msg(""), msg("M"), entry(num(0), num(0)), {}, {Kind: 6}, {Kind: -1}, {Kind: 1<<32 + 1}, {B: []byte{}},
	} {
		if value.IsZero(v) {
			t.Errorf("%s is", told(v))
		}
	}
}
