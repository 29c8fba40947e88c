package enc_test

import (
	"bytes"
	"math/rand"
	"slices"
	"testing"

	"signetry/api"
	"signetry/build"
	"signetry/enc"
	"signetry/wire"
)

// recordsIn is how many records there are for the list of a field that it denotes.
func recordsIn(f api.Field, l []api.Val) int {
	if f.Card == api.Rep && packs(f.Type) {
		return 1
	}
	return len(l)
}

// P12.4: the bytes of a value are records with the numbers of its slots, in the order:
// one for a packed list, and as many as there are values for any other.
func TestBytesAreRecords(t *testing.T) {
	t.Parallel()
	count := 0
	eachRandom(t, 8, 6000, func(r *rand.Rand, s api.Set, name string, v api.Val) {
		m, _ := build.Msg(s, name)
		order := shuffled(r, v)
		l, e := wire.Split(must(t, s, name, v, order))
		if e != api.OK {
			t.Fatalf("%d of %s", e, told(v))
		}
		var got, want []int
		for _, x := range l {
			got = append(got, x.Num)
		}
		for _, n := range order {
			f, _ := build.Field(m, n)
			at := slices.IndexFunc(v.F, func(x api.Slot) bool { return x.Num == n })
			want = append(want, slices.Repeat([]int{n}, recordsIn(f, v.F[at].L))...)
		}
		if count += len(l); !slices.Equal(got, want) {
			t.Errorf("%v, want %v, of %s", got, want, told(v))
		}
	})
	if count < 10000 {
		t.Errorf("only %d records", count)
	}
}

// P12.4: each record of a field is the shortest one with its number and what it says,
// of the wire type of its type.
func TestRecordsAreShortest(t *testing.T) {
	t.Parallel()
	eachRandom(t, 9, 2000, func(r *rand.Rand, s api.Set, name string, v api.Val) {
		l, _ := wire.Split(must(t, s, name, v, shuffled(r, v)))
		for _, x := range l {
			if again, e := wire.Make(x.Num, x.Wire, x.N, x.B); e != api.OK || !wire.Same(again, x) {
				t.Errorf("%d, %+v, want %+v", e, x, again)
			}
		}
	})
	for typ, l := range samples() {
		wires := map[byte]int{0: 0, 1: 1, 2: 2, 5: 5}
		for card := api.Opt; card <= api.Rep; card++ {
			b, _ := enc.Records(typed(t, typ, 0), plain(typ, card), []api.Val{l[1].v})
			want := wires[startOf(0, typ, nil)[0]&7]
			if card == api.Rep && packs(typ) {
				want = 2
			}
			if x, n, e := wire.Next(b); e != api.OK || n != len(b) || x.Num != 1 || x.Wire != want {
				t.Errorf("%d, %+v, want wire type %d, of %s", e, x, want, types[typ])
			}
		}
	}
}

// byNumber is records by their numbers, those with the same number in their order.
func byNumber(t *testing.T, b []byte) []byte {
	t.Helper()
	l, e := wire.Split(b)
	if e != api.OK {
		t.Fatal(e)
	}
	slices.SortStableFunc(l, func(a, b api.Rec) int { return a.Num - b.Num })
	all, _ := wire.Bytes(l)
	return all
}

// P12.5: in two orders there are the same records, those with the same number in the
// same order; and the bytes are those of each slot by itself.
func TestOrdersHaveTheSame(t *testing.T) {
	t.Parallel()
	count := 0
	eachRandom(t, 10, 3000, func(r *rand.Rand, s api.Set, name string, v api.Val) {
		m, _ := build.Msg(s, name)
		rising := must(t, s, name, v, nil)
		is(t, "no order", must(t, s, name, v, enc.Rising(v)), rising)
		for range 3 {
			order := shuffled(r, v)
			b := must(t, s, name, v, order)
			is(t, told(v), byNumber(t, b), rising)
			var slots, records []byte
			for _, n := range order {
				x := v.F[slices.IndexFunc(v.F, func(x api.Slot) bool { return x.Num == n })]
				slots = append(slots, must(t, s, name, msg(name, x), nil)...)
				f, _ := build.Field(m, n)
				part, e := enc.Records(s, f, x.L)
				if e != api.OK {
					t.Fatalf("%d of %s", e, toldAll(x.L))
				}
				records = append(records, part...)
			}
			is(t, "slots of "+told(v), slots, b)
			is(t, "records of "+told(v), records, b)
			count += len(order)
		}
	})
	if count < 10000 {
		t.Errorf("only %d slots", count)
	}
}

// listsUpTo is all lists of some values that have one to so many.
func listsUpTo(most int, l ...api.Val) (all [][]api.Val) {
	before := [][]api.Val{nil}
	for range most {
		var next [][]api.Val
		for _, start := range before {
			for _, v := range l {
				next = append(next, append(slices.Clone(start), v))
			}
		}
		all, before = append(all, next...), next
	}
	return all
}

// smallLists is some small lists that a field denotes, no two of them the same.
func smallLists(f api.Field) (all [][]api.Val) {
	var values []api.Val
	for _, x := range samples()[f.Type] {
		if f.Card != api.One || !isZero(x.v) {
			values = append(values, x.v)
		}
	}
	switch f.Card {
	case api.One, api.Opt:
		return listsUpTo(1, values...)
	case api.Rep:
		all = listsUpTo(1, values...)
		for _, l := range listsUpTo(4, values[:min(len(values), 4)]...) {
			if len(l) > 1 {
				all = append(all, l)
			}
		}
		return all
	}
	keys := rising(f.Key)
	for i, a := range keys {
		for _, v := range values {
			all = append(all, []api.Val{entry(a.v, v)})
		}
		for _, b := range keys[i+1:] {
			for _, v := range values[:2] {
				for _, w := range values[:2] {
					all = append(all, []api.Val{entry(a.v, v), entry(b.v, w)})
				}
			}
		}
	}
	return all
}

// P12.6: no two small lists of a field have the same bytes, of each type, card and key;
// as a value with none has no bytes, no list has none.
func TestDifferentLists(t *testing.T) {
	t.Parallel()
	count := 0
	for typ := range types {
		fields := []api.Field{plain(typ, api.Opt), plain(typ, api.Rep)}
		if typ != api.TMsg {
			fields = append(fields, plain(typ, api.One))
		}
		for _, key := range keyTypes {
			fields = append(fields, mapOf(key, typ))
		}
		for _, f := range fields {
			s := typed(t, typ, f.Key)
			seen := map[string]string{"": "nothing"}
			for _, l := range smallLists(f) {
				count++
				b, e := enc.Records(s, f, l)
				if e != api.OK {
					t.Fatalf("%d of %s by %+v", e, toldAll(l), f)
				}
				if seen[string(b)] != "" {
					t.Errorf("% x of both %s and %s by %+v", b, seen[string(b)], toldAll(l), f)
				}
				seen[string(b)] = toldAll(l)
			}
		}
	}
	if count < 20000 {
		t.Errorf("only %d lists", count)
	}
}

// P12.6: no two small values of a message have the same bytes: all that have one of a
// few lists in each of their slots, or none.
func TestDifferentValues(t *testing.T) {
	t.Parallel()
	s := built(t, `a:message M{int32 a=1;optional int32 b=2;repeated sint32 c=3;repeated string d=4;map<bool,string>e=5;M f=6;oneof o{int32 x=7;M y=8;bytes z=9;}}`)
	few := map[int][][]api.Val{
		1: {{num(1)}, {num(-1)}},
		2: {{num(0)}, {num(1)}},
		3: {{num(0)}, {num(0), num(0)}, {num(-1)}},
		4: {{str("")}, {str(""), str("")}, {str("\x08\x01")}},
		5: {{entry(num(0), str(""))}, {entry(num(1), str(""))}, {entry(num(0), str("")), entry(num(1), str("\x08"))}},
		6: {{msg("M")}, {msg("M", slot(1, num(1)))}, {msg("M", slot(6, msg("M")))}, {msg("M", slot(7, num(0)))}},
		7: {{num(0)}, {num(1)}},
		8: {{msg("M")}, {msg("M", slot(2, num(0)))}},
		9: {{str("")}, {str("\x00")}},
	}
	seen := map[string]string{}
	var next func(v api.Val, n int)
	next = func(v api.Val, n int) {
		if n == 10 {
			b := must(t, s, "M", v, nil)
			if seen[string(b)] != "" {
				t.Errorf("% x of both %s and %s", b, seen[string(b)], told(v))
			}
			seen[string(b)] = told(v)
			return
		}
		next(v, n+1)
		if n > 7 && len(v.F) > 0 && v.F[len(v.F)-1].Num >= 7 {
			return
		}
		for _, l := range few[n] {
			next(msg("M", append(slices.Clip(v.F), slot(n, l...))...), n+1)
		}
	}
	next(msg("M"), 1)
	if want := 3 * 3 * 4 * 4 * 4 * 5 * 7; len(seen) != want {
		t.Errorf("%d values, want %d", len(seen), want)
	}
}

// P12.6: random values of a message that differ have different bytes.
func TestDifferentRandomValues(t *testing.T) {
	t.Parallel()
	r := rand.New(rand.NewSource(11))
	different := 0
	for range 100 {
		s := randomSet(t, r)
		for _, m := range s.Msgs {
			var before []api.Val
			for range 8 {
				v := valueOf(r, s, m.Name, 6)
				b := must(t, s, m.Name, v, nil)
				for _, o := range before {
					same := told(o) == told(v)
					if bytes.Equal(b, must(t, s, m.Name, o, nil)) != same {
						t.Errorf("% x of both %s and %s", b, told(o), told(v))
					}
					if !same {
						different++
					}
				}
				before = append(before, v)
			}
		}
	}
	if different < 5000 {
		t.Errorf("only %d", different)
	}
}
