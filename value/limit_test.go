package value_test

import (
	"testing"

	"signetry/api"
	"signetry/value"
)

// sizes checks what Size says of a value.
func sizes(t *testing.T, v api.Val, many, deep int) {
	t.Helper()
	if m, d := value.Size(v); m != many || d != deep {
		t.Errorf("%d, %d deep, want %d, %d deep, of %.2000s", m, d, many, deep, told(v))
	}
}

// great is values of M of treeOf that have as many values as that, in different ways.
func great(many int) []api.Val {
	half := (many - 1) / 2
	// Each entry is three values.
	var entries []api.Val
	for i := range (many - 1) / 3 {
		entries = append(entries, entry(num(i), msg("M")))
	}
	byEntries := msg("M", slot(4, entries...))
	if rest := (many - 1) % 3; rest > 0 {
		byEntries.F = append(byEntries.F, slot(5, times(rest, num(0))...))
	}
	return []api.Val{
		msg("M", slot(5, times(many-1, num(0))...)),
		msg("M", slot(3, times(many-1, msg("M"))...)),
		msg("M", slot(3, times(half, msg("M"))...), slot(5, times(many-1-half, num(1))...)),
		msg("M", slot(1, num(1)), slot(2, msg("M", slot(5, times(many-4, num(1))...))), slot(7, num(1))),
		byEntries,
	}
}

// P11.1: 4000 values in total are no more than there may be, 4001 are, whatever they
// are.
func TestManyValues(t *testing.T) {
	s := built(t, treeOf)
	m := api.Field{Type: api.TMsg, Card: api.Opt, Ref: "M"}
	for _, many := range []int{3998, 3999, 4000, 4001, 4002, 4003, 5000, 100000} {
		want := api.OK
		if many > api.MaxNodes {
			want = api.ErrLimit
		}
		for _, v := range great(many) {
			if got, _ := value.Size(v); got != many {
				t.Errorf("%d values, want %d", got, many)
			}
			checks(t, s, "M", v, want)
			denotes(t, s, m, want == api.OK, v)
			// What is wrong besides comes later; what is wrong ahead of it does not.
			wrong := v
			wrong.Mag = 1
			if want == api.OK {
				checks(t, s, "M", wrong, api.ErrType)
				checks(t, s, "N", v, api.ErrType)
			} else {
				checks(t, s, "M", wrong, api.ErrLimit)
				checks(t, s, "N", v, api.ErrLimit)
			}
			checks(t, s, "E", v, api.ErrName)
			checks(t, wrongSets(t)[0], "M", v, api.ErrArg)
		}
	}
}

// P11.1: values are counted wherever they are, also where none may be.
func TestWhereValuesCount(t *testing.T) {
	s := built(t, treeOf)
	for _, around := range []func(l []api.Val) api.Val{
		func(l []api.Val) api.Val { return api.Val{F: []api.Slot{slot(1, l...)}} },
		func(l []api.Val) api.Val { return api.Val{Kind: api.KInt, F: []api.Slot{slot(1, l...)}} },
		func(l []api.Val) api.Val { return api.Val{Kind: api.KBytes, F: []api.Slot{slot(1, l...)}} },
		func(l []api.Val) api.Val { return msg("X", slot(-1, l...)) },
		func(l []api.Val) api.Val { return msg("M", slot(1, l[:2000]...), slot(1, l[2000:]...)) },
		func(l []api.Val) api.Val { return msg("M", slot(3), slot(2, l...), slot(1)) },
	} {
		sizes(t, around(times(3999, num(1))), 4000, 2)
		checks(t, s, "M", around(times(3999, num(1))), api.ErrType)
		sizes(t, around(times(4000, num(1))), 4001, 2)
		checks(t, s, "M", around(times(4000, num(1))), api.ErrLimit)
		sizes(t, msg("M", slot(1, around(times(3999, num(1))))), 4001, 3)
		checks(t, s, "M", msg("M", slot(1, around(times(3999, num(1))))), api.ErrLimit)
		denotes(t, s, fieldOf(t, s, "M", 2), false, around(times(4000, num(1))))
	}
}

// P11.1: each value of a list that a field denotes is within the limits by itself;
// how long the list is does not matter.
func TestLimitsOfLists(t *testing.T) {
	s := built(t, treeOf)
	r, l, k := fieldOf(t, s, "M", 5), fieldOf(t, s, "M", 3), fieldOf(t, s, "M", 4)
	denotes(t, s, r, true, times(4000, num(0))...)
	denotes(t, s, r, true, times(4001, num(0))...)
	denotes(t, s, r, true, times(20000, num(0))...)
	four := msg("M", slot(5, times(3999, num(1))...))
	five := msg("M", slot(5, times(4000, num(1))...))
	denotes(t, s, l, true, four, msg("M"), four)
	denotes(t, s, l, false, four, five)
	denotes(t, s, l, false, five, four)
	denotes(t, s, l, true, nest(30, "M", 2), msg("M"), nest(30, "M", 2))
	denotes(t, s, l, false, msg("M"), nest(31, "M", 2))
	// An entry and its key count.
	three := msg("M", slot(5, times(3997, num(1))...))
	denotes(t, s, k, true, entry(num(1), three), entry(num(2), three))
	denotes(t, s, k, false, entry(num(1), three), entry(num(2), msg("M", slot(5, times(3998, num(1))...))))
	denotes(t, s, k, true, entry(num(1), nest(29, "M", 2)))
	denotes(t, s, k, false, entry(num(1), nest(30, "M", 2)))
	// A card that nothing has changes nothing of it.
	denotes(t, s, api.Field{}, true)
	denotes(t, s, api.Field{}, false, five)
}

// P11.1: 30 deep is no deeper than a value may be, 31 is, in whatever it is.
func TestDeepValues(t *testing.T) {
	s := built(t, treeOf)
	byEntry := func(deep int) api.Val {
		v := msg("M")
		if deep%2 == 0 {
			v = msg("M", slot(1, num(1)))
		}
		for range (deep - 1) / 2 {
			v = msg("M", slot(4, entry(num(1), v)))
		}
		return v
	}
	byNumber := func(deep int) api.Val {
		v := msg("M", slot(5, num(1), num(2)))
		for range deep - 2 {
			v = msg("M", slot(2, v))
		}
		return v
	}
	byLast := func(deep int) api.Val {
		v := msg("M")
		for range deep - 1 {
			v = msg("M", slot(2, msg("M")), slot(3, msg("M"), msg("M"), v))
		}
		return v
	}
	byFirst := func(deep int) api.Val {
		v := msg("M")
		for range deep - 1 {
			v = msg("M", slot(3, v, msg("M")), slot(8, msg("M")))
		}
		return v
	}
	for i, make := range []func(deep int) api.Val{byEntry, byNumber, byLast, byFirst, func(deep int) api.Val { return nest(deep, "M", 8) }} {
		for _, deep := range []int{2, 3, 29, 30, 31, 32, 33, 60, 100, 1000} {
			v := make(deep)
			want := api.OK
			if deep > 30 {
				want = api.ErrLimit
			}
			if _, d := value.Size(v); d != deep {
				t.Errorf("%d: %d deep, want %d", i, d, deep)
			}
			checks(t, s, "M", v, want)
			v.Neg = true
			if want == api.OK {
				want = api.ErrType
			}
			checks(t, s, "M", v, want)
		}
	}
	// Empty slots hold nothing that is deeper.
	v := nest(30, "M", 2)
	v.F = append(v.F, slot(3))
	sizes(t, v, 30, 30)
	checks(t, s, "M", v, api.ErrType)
}

// P11.2: how many values there are, and how deep, in values of all kinds.
func TestSize(t *testing.T) {
	for _, v := range []api.Val{{}, num(0), num(-5), f32(1), f64(1), str(""), str("abc"), msg(""), msg("M"), {Kind: -1}, msg("M", slot(1)), msg("M", slot(1), slot(1)), {Kind: 9, F: []api.Slot{}}} {
		sizes(t, v, 1, 1)
		sizes(t, msg("M", slot(1, v)), 2, 2)
		sizes(t, msg("", slot(7, v), slot(7, v, v), slot(-1)), 4, 2)
		sizes(t, api.Val{F: []api.Slot{slot(0, num(1), msg("", slot(1, v, v)), v)}}, 6, 3)
		sizes(t, entry(v, entry(v, v)), 5, 3)
	}
	for deep := 1; deep < 200; deep++ {
		sizes(t, nest(deep, "M", 3), deep, deep)
	}
	sizes(t, msg("M", slot(1, times(1<<17, num(1))...)), 1<<17+1, 2)
}

// R1: a value that is nested as deeply as values may be at all, and one that has as
// much in it.
func TestGreatestValues(t *testing.T) {
	s := built(t, treeOf)
	const deep = 1<<16 - 1
	v := nest(deep, "M", 2)
	sizes(t, v, deep, deep)
	c := value.Copy(v)
	sizes(t, c, deep, deep)
	if !value.Same(v, c) || !value.SameAll([]api.Val{v}, []api.Val{c}) || value.Same(v, v.F[0].L[0]) || value.IsZero(v) || value.Less(v, c) {
		t.Error("deep values")
	}
	sizes(t, value.Get(v, 2)[0], deep-1, deep-1)
	sizes(t, value.Put(v, 3, []api.Val{c}), 2*deep, deep+1)
	sizes(t, value.Put(v, 2, nil), 1, 1)
	checks(t, s, "M", v, api.ErrLimit)
	denotes(t, s, fieldOf(t, s, "M", 2), false, v)
	// 2^40 values, as each one stands in two places.
	v = msg("M")
	for range 40 {
		v = msg("M", slot(3, v, v))
	}
	checks(t, s, "M", v, api.ErrLimit)
	denotes(t, s, fieldOf(t, s, "M", 3), false, v)
	v = msg("M")
	for range 20 {
		v = msg("M", slot(3, v, v))
	}
	checks(t, s, "M", v, api.ErrLimit)
	sizes(t, v, 1<<21-1, 21)
}
