package dec_test

import (
	"math/rand"
	"reflect"
	"testing"

	"signetry/api"
	"signetry/dec"
	"signetry/value"
)

// same checks what SameMess says, of either one as the first one.
func same(t *testing.T, a, b api.Mess, want bool) {
	t.Helper()
	if dec.SameMess(a, b) != want || dec.SameMess(b, a) != want {
		t.Errorf("want %t of %s and %s", want, said(a), said(b))
	}
}

// P13.2: the values and all records, in their order.
func TestSameMess(t *testing.T) {
	v, w := msg("M", slot(1, num(1))), msg("M", slot(1, num(2)))
	a, b := raw("0801"), raw("1201ff")
	all := []api.Mess{
		{}, {V: msg("M")}, {V: msg("N")}, {V: num(0)}, {V: num(1)},
		messOf(t, v), messOf(t, w), messOf(t, v, a), messOf(t, w, a), messOf(t, v, b), messOf(t, v, a, b), messOf(t, v, b, a), messOf(t, v, a, a), messOf(t, v, a, a, b),
		messOf(t, api.Val{}, a), messOf(t, v, raw("8800 01")), messOf(t, v, raw("088100")), messOf(t, v, raw("120100")), messOf(t, v, raw("1200")),
		{V: v, Unknown: []api.Rec{{}}}, {V: v, Unknown: []api.Rec{{}, {}}}, {V: v, Unknown: []api.Rec{{Num: 1}}}, {V: v, Unknown: []api.Rec{{Wire: 1}}}, {V: v, Unknown: []api.Rec{{N: 1}}}, {V: v, Unknown: []api.Rec{{B: a}}}, {V: v, Unknown: []api.Rec{{Raw: a}}},
	}
	for i, x := range all {
		for j, y := range all {
			same(t, x, y, i == j)
		}
	}
	// Lists that are nil or empty are the same.
	same(t, api.Mess{V: v}, api.Mess{V: v, Unknown: []api.Rec{}}, true)
	same(t, api.Mess{V: msg("M")}, api.Mess{V: api.Val{Kind: api.KMsg, Name: "M", B: []byte{}, F: []api.Slot{}}}, true)
	same(t, api.Mess{Unknown: []api.Rec{{}}}, api.Mess{Unknown: []api.Rec{{B: []byte{}, Raw: []byte{}}}}, true)
}

// copyOf is a copy with memory of its own.
func copyOf(m api.Mess) api.Mess {
	m.V = value.Copy(m.V)
	var l []api.Rec
	for _, r := range m.Unknown {
		r.B, r.Raw = append([]byte(nil), r.B...), append([]byte(nil), r.Raw...)
		l = append(l, r)
	}
	m.Unknown = l
	return m
}

// anyMess is something with anything in it.
func anyMess(r *rand.Rand) api.Mess {
	m := api.Mess{V: anything(r, 4)}
	for range r.Intn(4) {
		m.Unknown = append(m.Unknown, api.Rec{
			Num: r.Intn(4) - 1, Wire: r.Intn(7) - 1, N: uint64(r.Intn(3)),
			B: []byte(pick(r, []string{"", "a", "\xff"})), Raw: []byte(pick(r, []string{"", "a", "ab"})),
		})
	}
	return m
}

// P13.2: random ones, and copies of them that are changed in one place.
func TestSameMessOfAnything(t *testing.T) {
	r := rand.New(rand.NewSource(60))
	changed := 0
	for range 10000 {
		m := anyMess(r)
		n := copyOf(m)
		same(t, m, n, true)
		change(r, pick(r, parts(reflect.ValueOf(&n).Elem())))
		want := deepEqual(m, n)
		if !want {
			changed++
		}
		same(t, m, n, want)
		o := anyMess(r)
		same(t, m, o, deepEqual(m, o))
	}
	if changed < 5000 {
		t.Errorf("only %d were changed", changed)
	}
}
