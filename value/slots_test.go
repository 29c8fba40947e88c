package value_test

import (
	"math/rand"
	"slices"
	"testing"

	"signetry/api"
	"signetry/value"
)

// Lists that differ.
var (
	listA = []api.Val{num(1)}
	listB = []api.Val{str("b"), str("")}
	listC = []api.Val{msg("M", slot(1, num(1))), msg("M")}
	listD = []api.Val{{Kind: 9}}
)

// P11.3: the list of the first slot with a number.
func TestGet(t *testing.T) {
	v := msg("M", slot(2, listA...), slot(5, listB...), slot(9, listC...))
	for n, want := range map[int][]api.Val{2: listA, 5: listB, 9: listC, 1: nil, 3: nil, 6: nil, 10: nil, 0: nil, -2: nil, 1<<32 + 2: nil, -1 << 63: nil, 1<<63 - 1: nil} {
		areAll(t, "ordered", value.Get(v, n), want)
	}
	// Numbers that stand twice, that do not rise, that nothing has.
	v = msg("M", slot(5, listA...), slot(2, listB...), slot(5, listC...), slot(2), slot(-1, listD...), slot(0, listA...), slot(7), slot(7, listB...), slot(1<<63-1, listC...), slot(-1<<63, listA...))
	for n, want := range map[int][]api.Val{5: listA, 2: listB, -1: listD, 0: listA, 7: nil, 1<<63 - 1: listC, -1 << 63: listA, 1: nil, -2: nil, 8: nil} {
		areAll(t, "in disorder", value.Get(v, n), want)
	}
	for _, v := range []api.Val{{}, num(1), str("a"), msg("M"), {Kind: api.KMsg, F: []api.Slot{}}} {
		areAll(t, "no slots", value.Get(v, 1), nil)
		areAll(t, "no slots", value.Get(v, 0), nil)
	}
	// Whatever kind it is of, and only what is in itself.
	areAll(t, "a number", value.Get(api.Val{Kind: api.KInt, F: []api.Slot{slot(1, listA...)}}, 1), listA)
	areAll(t, "inside", value.Get(msg("M", slot(1, msg("M", slot(2, listA...)))), 2), nil)
}

// P11.3: a list is put ahead of others, between them, behind them, into a slot that
// is there, and taken away.
func TestPut(t *testing.T) {
	two, five, nine := slot(2, listA...), slot(5, listB...), slot(9, listC...)
	v := msg("M", two, five, nine)
	for n, want := range map[int][]api.Slot{
		-1 << 63:  {slot(-1<<63, listD...), two, five, nine},
		-5:        {slot(-5, listD...), two, five, nine},
		0:         {slot(0, listD...), two, five, nine},
		1:         {slot(1, listD...), two, five, nine},
		2:         {slot(2, listD...), five, nine},
		3:         {two, slot(3, listD...), five, nine},
		4:         {two, slot(4, listD...), five, nine},
		5:         {two, slot(5, listD...), nine},
		6:         {two, five, slot(6, listD...), nine},
		9:         {two, five, slot(9, listD...)},
		10:        {two, five, nine, slot(10, listD...)},
		1<<63 - 1: {two, five, nine, slot(1<<63-1, listD...)},
	} {
		is(t, "put", value.Put(v, n, listD), msg("M", want...))
	}
	for _, none := range [][]api.Val{nil, {}} {
		for n, want := range map[int][]api.Slot{
			-1: {two, five, nine}, 1: {two, five, nine}, 3: {two, five, nine}, 10: {two, five, nine}, 1<<32 + 2: {two, five, nine},
			2: {five, nine}, 5: {two, nine}, 9: {two, five},
		} {
			is(t, "put nothing", value.Put(v, n, none), msg("M", want...))
		}
		is(t, "put nothing", value.Put(msg("M"), 1, none), msg("M"))
		is(t, "put nothing", value.Put(msg("M", two), 2, none), msg("M"))
	}
	is(t, "put into nothing", value.Put(msg("M"), 7, listC), msg("M", slot(7, listC...)))
	is(t, "put into nothing", value.Put(api.Val{}, 0, listC), api.Val{F: []api.Slot{slot(0, listC...)}})
}

// P11.3: where numbers stand twice the first slot counts; where they do not rise, the
// first one with a greater number.
func TestPutInDisorder(t *testing.T) {
	one, five, six := slot(1, listA...), slot(5, listB...), slot(5, listC...)
	v := msg("M", five, one, six, slot(1))
	for n, want := range map[int][]api.Slot{
		0: {slot(0, listD...), five, one, six, slot(1)},
		1: {five, slot(1, listD...), six, slot(1)},
		3: {slot(3, listD...), five, one, six, slot(1)},
		5: {slot(5, listD...), one, six, slot(1)},
		6: {five, one, six, slot(1), slot(6, listD...)},
	} {
		is(t, "put", value.Put(v, n, listD), msg("M", want...))
	}
	for n, want := range map[int][]api.Slot{
		0: {five, one, six, slot(1)},
		1: {five, six, slot(1)},
		5: {one, six, slot(1)},
	} {
		is(t, "put nothing", value.Put(v, n, nil), msg("M", want...))
	}
	// A slot with an empty list is one that is there.
	v = msg("M", slot(3), slot(2), slot(8))
	is(t, "put", value.Put(v, 2, listA), msg("M", slot(3), slot(2, listA...), slot(8)))
	is(t, "put", value.Put(v, 7, listA), msg("M", slot(3), slot(2), slot(7, listA...), slot(8)))
	is(t, "put nothing", value.Put(v, 8, nil), msg("M", slot(3), slot(2)))
	// The first greater one is ahead of smaller ones.
	v = msg("M", slot(2, listA...), slot(9, listB...), slot(3, listC...))
	is(t, "put", value.Put(v, 5, listD), msg("M", slot(2, listA...), slot(5, listD...), slot(9, listB...), slot(3, listC...)))
}

// P11.3: all else of a value stays, of whatever kind it is.
func TestPutChangesNothingElse(t *testing.T) {
	for _, v := range append(different(), api.Val{Kind: 7, Neg: true, Mag: 5, B: []byte("ab"), Name: "N", F: []api.Slot{slot(4, listA...)}}) {
		want := v
		want.F = append(slices.Clone(v.F), slot(100, listC...))
		is(t, "put", value.Put(v, 100, listC), want)
		is(t, "put and taken away", value.Put(value.Put(v, 100, listC), 100, nil), v)
		want.F = slices.Insert(slices.Clone(v.F), 0, slot(-100, listC...))
		is(t, "put", value.Put(v, -100, listC), want)
		is(t, "put nothing", value.Put(v, 100, nil), v)
	}
}

// slotsOf is how many slots a value has with a number, and the others.
func slotsOf(v api.Val, n int) (count int, others api.Val) {
	others = v
	others.F = nil
	for _, x := range v.F {
		if x.Num == n {
			count++
		} else {
			others.F = append(others.F, x)
		}
	}
	return count, others
}

// P11.5: what was put is what is got; all else is as it was.
func TestGetWhatWasPut(t *testing.T) {
	r := rand.New(rand.NewSource(4))
	for range 5000 {
		v, l, n := anything(r, 3), anyList(r, 2), r.Intn(12)-2
		now := value.Put(v, n, l)
		before, others := slotsOf(v, n)
		after, othersNow := slotsOf(now, n)
		is(t, "the others", othersNow, others)
		want := max(before, 1)
		if len(l) == 0 {
			want = max(before-1, 0)
		}
		if after != want {
			t.Errorf("%d slots with %d, want %d, of %s", after, n, want, told(v))
		}
		// A number that stood twice is still there once it was taken away.
		if len(l) > 0 || before < 2 {
			areAll(t, "got", value.Get(now, n), l)
		}
		if len(l) > 0 {
			is(t, "put again", value.Put(now, n, l), now)
		}
		for other := -3; other < 12; other++ {
			if other != n {
				areAll(t, "another one", value.Get(now, other), value.Get(v, other))
			}
		}
	}
}
