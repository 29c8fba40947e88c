package dec_test

import (
	"bytes"
	"math/rand"
	"slices"
	"testing"

	"signetry/api"
	"signetry/build"
	"signetry/dec"
	"signetry/enc"
	"signetry/value"
	"signetry/wire"
)

// P13.4: bytes that are encoded, in any order, are read as the value that they are of,
// without unknown records.
func TestEncodedValues(t *testing.T) {
	t.Parallel()
	slots := 0
	eachRandom(t, 50, 4000, func(r *rand.Rand, s api.Set, name string, v api.Val) {
		slots += len(v.F)
		reads(t, s, name, encoded(t, s, name, v, nil), v)
		for range 3 {
			reads(t, s, name, encoded(t, s, name, v, shuffled(r, v)), v)
		}
	})
	if slots < 6000 {
		t.Errorf("only %d slots", slots)
	}
}

// P13.4: all orders of a value with something of everything.
func TestAllOrders(t *testing.T) {
	s := built(t, treeOf)
	v := msg("M", slot(1, num(-1)), slot(2, msg("M", slot(5, num(1), num(2)), slot(7, num(0)))), slot(3, msg("M"), msg("M", slot(1, num(1)))),
		slot(4, entry(num(-1), msg("M")), entry(num(2), msg("M", slot(14, num(0))))), slot(5, num(0), num(-1), num(300)), slot(8, msg("M", slot(15, str("é")))), slot(13, str("\xff"), str("")))
	for _, order := range orders(7) {
		for i := range order {
			order[i] = v.F[order[i]].Num
		}
		reads(t, s, "M", encoded(t, s, "M", v, order), v)
	}
}

// P13.5: what is read is a value of the message; its bytes, followed by the unknown
// records, are read as the same.
func TestReadAgain(t *testing.T) {
	t.Parallel()
	r := rand.New(rand.NewSource(51))
	slots, unknown := 0, 0
	var s api.Set
	for i := range 10000 {
		if i%20 == 0 {
			s = randomSet(t, r)
		}
		x := pick(r, s.Msgs)
		b := wild(r, s, x.Fields, 5)
		if i%5 == 0 {
			b = mutated(r, b)
		}
		m, e := dec.Decode(s, x.Name, b)
		if e != api.OK {
			continue
		}
		if e := value.Check(s, x.Name, m.V); e != api.OK {
			t.Fatalf("%d, %s of % x", e, said(m), b)
		}
		again := encoded(t, s, x.Name, m.V, nil)
		rest, e := wire.Bytes(m.Unknown)
		if e != api.OK {
			t.Fatalf("%d of the unknown records of % x", e, b)
		}
		n, e := dec.Decode(s, x.Name, append(again, rest...))
		if e != api.OK || !dec.SameMess(m, n) {
			t.Errorf("%d, %s, want %s, of % x", e, said(n), said(m), b)
		}
		slots, unknown = slots+len(m.V.F), unknown+len(m.Unknown)
	}
	if slots < 5000 || unknown < 2500 {
		t.Errorf("only %d slots, %d unknown records", slots, unknown)
	}
}

// merged is two values of a message with fields as one, slot by slot: of two lists, both;
// of two messages of a field that has one, both as one; otherwise the second one.
func merged(s api.Set, a, b api.Val) api.Val {
	m, _ := build.Msg(s, b.Name)
	v := value.Copy(a)
	for _, x := range b.F {
		f, _ := build.Field(m, x.Num)
		for _, other := range m.Fields {
			if f.Oneof >= 0 && other.Oneof == f.Oneof && other.Num != f.Num {
				v = value.Put(v, other.Num, nil)
			}
		}
		l := value.Get(v, x.Num)
		switch {
		case f.Card == api.Rep:
			l = append(l, x.L...)
		case f.Card == api.Map:
			for _, e := range x.L {
				l = insert(l, e)
			}
		case f.Type == api.TMsg && len(l) > 0:
			l = []api.Val{merged(s, l[0], x.L[0])}
		default:
			l = x.L
		}
		v = value.Put(v, x.Num, l)
	}
	return v
}

// P13.6: bytes one after the other are read as if the slots were merged.
func TestMergedValues(t *testing.T) {
	t.Parallel()
	both := 0
	eachRandom(t, 52, 2500, func(r *rand.Rand, s api.Set, name string, v api.Val) {
		w := valueOf(r, s, name, 1+r.Intn(9))
		a, b := encoded(t, s, name, v, shuffled(r, v)), encoded(t, s, name, w, shuffled(r, w))
		want := merged(s, v, w)
		if many, _ := value.Size(want); many > 2000 {
			return
		}
		reads(t, s, name, slices.Concat(a, b), want)
		reads(t, s, name, slices.Concat(a, b, a), merged(s, want, v))
		for _, x := range w.F {
			if len(value.Get(v, x.Num)) > 0 {
				both++
			}
		}
	})
	if both < 1500 {
		t.Errorf("only %d slots that both have", both)
	}
}

// P13.6: small values, all pairs of them, as bytes one after the other.
func TestMergedPairs(t *testing.T) {
	t.Parallel()
	s := built(t, treeOf)
	one := slot(1, num(1))
	var all []api.Val
	for _, x := range []api.Slot{
		one, slot(1, num(2)), slot(2, msg("M")), slot(2, msg("M", one)), slot(2, msg("M", slot(14, num(0)))), slot(2, msg("M", slot(2, msg("M", one)))), slot(2, msg("M", slot(5, num(1)))),
		slot(3, msg("M")), slot(3, msg("M", one), msg("M")), slot(4, entry(num(0), msg("M"))), slot(4, entry(num(0), msg("M", one))), slot(4, entry(num(-1), msg("M")), entry(num(1), msg("M", one))),
		slot(5, num(0)), slot(5, num(1), num(2)), slot(6, entry(num(0), num(0))), slot(6, entry(num(0), num(1)), entry(num(1), num(1))), slot(7, num(0)), slot(7, num(1)),
		slot(8, msg("M")), slot(8, msg("M", one)), slot(8, msg("M", slot(7, num(0)))), slot(9, str("")), slot(9, str("a")), slot(10, num(0)), slot(11, num(0)), slot(12, str("a")), slot(13, str(""), str("a")),
		slot(14, num(0)), slot(14, num(1)), slot(15, str("a")), slot(16, str("")),
	} {
		all = append(all, msg("M", x), msg("M", slot(2, msg("M", x))))
	}
	for _, v := range all {
		for _, w := range all {
			b := slices.Concat(encoded(t, s, "M", v, nil), encoded(t, s, "M", w, nil))
			want := merged(s, v, w)
			reads(t, s, "M", b, want)
			if !bytes.Equal(encoded(t, s, "M", want, enc.Rising(want)), encoded(t, s, "M", must(t, s, "M", b).V, nil)) {
				t.Errorf("other bytes of %s", told(want))
			}
		}
	}
}
