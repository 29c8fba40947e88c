package enc_test

import (
	"bytes"
	"slices"
	"testing"

	"signetry/api"
	"signetry/enc"
)

// variedSet is a set with fields of many sorts, and variedSlots is a slot for each of
// them (but one of the oneof), with its bytes.
const variedSet = `a:message M{int32 a=1;repeated sint64 p=2;repeated string l=3;map<string,fixed32>k=5;M m=16;oneof o{bool x=2047;bytes y=2048;}optional double d=536870911;}message N{}enum E{Z=0;}`

func variedSlots() ([]api.Slot, map[int][]byte) {
	return []api.Slot{
		slot(1, num(-1)),
		slot(2, num(0), num(-150), num(150)),
		slot(3, str("a"), str(""), str("é")),
		slot(5, entry(str(""), num(0)), entry(str("k"), num(258))),
		slot(16, msg("M", slot(1, num(1)), slot(3, str("b")))),
		slot(2048, str("")),
		slot(1<<29-1, f64(1<<63)),
	}, map[int][]byte{
		1:         raw("08 ffffffffffffffffff01"),
		2:         raw("12 05 00 ab02 ac02"),
		3:         raw("1a 01 61 1a 00 1a 02 c3a9"),
		5:         raw("2a 07 0a 00 15 00000000 2a 08 0a 01 6b 15 02010000"),
		16:        raw("8201 05 0801 1a 01 62"),
		2048:      raw("828001 00"),
		1<<29 - 1: raw("f9ffffff0f 0000000000000080"),
	}
}

// permutations calls with all orders of some numbers.
func permutations(l []int, call func(order []int)) {
	var next func(order, rest []int)
	next = func(order, rest []int) {
		if len(rest) == 0 {
			call(slices.Clone(order))
		}
		for i, n := range rest {
			next(append(slices.Clip(order), n), slices.Delete(slices.Clone(rest), i, i+1))
		}
	}
	next(nil, l)
}

// P12.1, P12.5: all orders of the slots of values with any of these slots.
func TestOrders(t *testing.T) {
	s := built(t, variedSet)
	all, said := variedSlots()
	count := 0
	for some := range 1 << len(all) {
		var l []api.Slot
		for i, x := range all {
			if some>>i&1 == 1 {
				l = append(l, x)
			}
		}
		// All slots but one have as many orders as all slots, seven times.
		if len(l) == 6 {
			continue
		}
		v := msg("M", l...)
		permutations(enc.Rising(v), func(order []int) {
			count++
			var want []byte
			for _, n := range order {
				want = append(want, said[n]...)
			}
			writes(t, s, "M", v, order, want)
		})
		var want []byte
		for _, x := range l {
			want = append(want, said[x.Num]...)
		}
		writes(t, s, "M", v, nil, want)
		writes(t, s, "M", v, []int{}, want)
		writes(t, s, "M", v, make([]int, 0, 9), want)
	}
	if count < 7000 {
		t.Errorf("only %d orders", count)
	}
}

// P12.1: an order is one of the outermost slots alone: what is nested, and what is in
// entries, is in increasing order.
func TestOrdersInside(t *testing.T) {
	s := built(t, `a:message M{int32 a=1;int32 b=2;M m=3;repeated M l=4;map<int32,M>k=5;}`)
	ab := msg("M", slot(1, num(1)), slot(2, num(2)))
	v := msg("M", slot(1, num(3)), slot(2, num(4)), slot(3, ab), slot(4, ab, ab), slot(5, entry(num(5), ab)))
	writes(t, s, "M", v, []int{5, 4, 3, 2, 1}, raw("2a08 0805 1204 0801 1002 2204 0801 1002 2204 0801 1002 1a04 0801 1002 1004 0803"))
	writes(t, s, "M", v, []int{2, 1, 5, 3, 4}, raw("1004 0803 2a08 0805 1204 0801 1002 1a04 0801 1002 2204 0801 1002 2204 0801 1002"))
	writes(t, s, "M", v, nil, raw("0803 1004 1a04 0801 1002 2204 0801 1002 2204 0801 1002 2a08 0805 1204 0801 1002"))
}

// sequences calls with all lists of some numbers that have at most so many.
func sequences(of []int, most int, call func(l []int)) {
	var next func(l []int)
	next = func(l []int) {
		call(slices.Clone(l))
		if len(l) < most {
			for _, n := range of {
				next(append(slices.Clip(l), n))
			}
		}
	}
	next(nil)
}

// P12.1: all short lists of numbers, as orders of values with few slots: orders if they
// are those of the slots, each once.
func TestNoOrders(t *testing.T) {
	s := built(t, variedSet)
	all, said := variedSlots()
	count := map[bool]int{}
	for _, l := range [][]api.Slot{nil, all[:1], all[1:2], all[:2], all[1:3], all[:3], {all[0], all[3]}, {all[1], all[2], all[4]}} {
		v := msg("M", l...)
		sequences([]int{-1, 0, 1, 2, 3, 5, 16}, 4, func(order []int) {
			sorted := slices.Sorted(slices.Values(order))
			isOrder := len(order) == 0 || slices.Equal(sorted, enc.Rising(v))
			count[isOrder]++
			if !isOrder {
				refuses(t, s, "M", v, order, api.ErrOrder)
				return
			}
			if len(order) == 0 {
				order = enc.Rising(v)
			}
			var want []byte
			for _, n := range order {
				want = append(want, said[n]...)
			}
			writes(t, s, "M", v, order, want)
		})
	}
	if count[true] < 20 || count[false] < 10000 {
		t.Error(count)
	}
}

// P12.1: orders that are none: too short, too long, with a number twice, or one that is
// none, at each place.
func TestSpoiltOrders(t *testing.T) {
	s := built(t, variedSet)
	all, _ := variedSlots()
	v := msg("M", all...)
	rising := enc.Rising(v)
	falling := slices.Clone(rising)
	slices.Reverse(falling)
	for _, order := range [][]int{rising, falling, {3, 1, 1<<29 - 1, 16, 2, 2048, 5}} {
		if _, e := enc.Encode(s, "M", v, order); e != api.OK {
			t.Errorf("%d of %v", e, order)
		}
		for i := range order {
			refuses(t, s, "M", v, slices.Delete(slices.Clone(order), i, i+1), api.ErrOrder)
			refuses(t, s, "M", v, order[: i : i+1][:max(i, 1)], api.ErrOrder)
			for _, n := range append([]int{0, -1, 4, 2047, 1 << 29, 1<<32 + 1, -1 << 63, 1<<63 - 1}, order...) {
				refuses(t, s, "M", v, slices.Insert(slices.Clone(order), i, n), api.ErrOrder)
				if n != order[i] {
					other := slices.Clone(order)
					other[i] = n
					refuses(t, s, "M", v, other, api.ErrOrder)
				}
			}
		}
		refuses(t, s, "M", v, append(slices.Clone(order), order...), api.ErrOrder)
		refuses(t, s, "M", v, append(slices.Clone(order), make([]int, 1<<22)...), api.ErrOrder)
	}
}

// P12.1: values without slots have the empty order alone, and no bytes.
func TestNoSlots(t *testing.T) {
	s := built(t, variedSet)
	for _, name := range []string{"M", "N"} {
		for _, v := range []api.Val{msg(name), {Kind: api.KMsg, Name: name, B: []byte{}, F: []api.Slot{}}} {
			writes(t, s, name, v, nil, nil)
			writes(t, s, name, v, []int{}, nil)
			for _, order := range [][]int{{0}, {1}, {-1}, {1, 2}, make([]int, 100)} {
				refuses(t, s, name, v, order, api.ErrOrder)
			}
		}
	}
}

// P12.1: the order of the slots is that of their numbers, whatever the order of the
// fields in the file is.
func TestOrderOfFields(t *testing.T) {
	a := built(t, `a:message M{int32 z=3;int32 y=1;oneof o{int32 x=7;}int32 w=2;}`)
	b := built(t, `a:message M{int32 w=2;int32 z=3;oneof o{int32 x=7;}int32 y=1;}`)
	v := msg("M", slot(1, num(1)), slot(2, num(2)), slot(3, num(3)), slot(7, num(7)))
	for _, s := range []api.Set{a, b} {
		writes(t, s, "M", v, nil, raw("08011002180338 07"))
		writes(t, s, "M", v, []int{7, 1, 3, 2}, raw("3807080118031002"))
	}
	if x := must(t, a, "M", v, nil); !bytes.Equal(x, must(t, b, "M", v, []int{1, 2, 3, 7})) {
		t.Errorf("% x", x)
	}
}
