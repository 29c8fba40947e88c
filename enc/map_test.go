package enc_test

import (
	"math/big"
	"slices"
	"testing"

	"signetry/api"
)

// entryOf is the record of an entry, with the number 1.
func entryOf(key int, k sample, typ int, v sample) []byte {
	both := append(recordOf(1, key, k), recordOf(2, typ, v)...)
	return append([]byte{0x0a}, counted(both)...)
}

// P12.1, P12.2: maps of keys of each type, to each type: each entry has its key and its
// value, also if these are zero.
func TestMaps(t *testing.T) {
	all := samples()
	for _, key := range keyTypes {
		for typ := range types {
			s, f := typed(t, typ, key), mapOf(key, typ)
			for _, k := range all[key] {
				v := all[typ][0]
				says(t, s, f, entryOf(key, k, typ, v), entry(k.v, v.v))
			}
			for _, v := range all[typ] {
				k := all[key][1]
				says(t, s, f, entryOf(key, k, typ, v), entry(k.v, v.v))
			}
		}
	}
}

// isAhead tells whether a key comes ahead of another one.
func isAhead(a, b api.Val) bool {
	if a.Kind == api.KBytes {
		return string(a.B) < string(b.B)
	}
	return number(a).Cmp(number(b)) < 0
}

// rising is samples of a type by increasing numbers, or bytes.
func rising(typ int) []sample {
	l := slices.Clone(samples()[typ])
	slices.SortFunc(l, func(a, b sample) int {
		if isAhead(a.v, b.v) {
			return -1
		}
		return 1
	})
	return l
}

// P12.1, P12.2: maps of many entries, a record each, in the order of their keys.
func TestManyEntries(t *testing.T) {
	for _, key := range keyTypes {
		for typ, values := range samples() {
			s, f := typed(t, typ, key), mapOf(key, typ)
			var l []api.Val
			var want []byte
			for i, k := range rising(key) {
				v := values[i%len(values)]
				l = append(l, entry(k.v, v.v))
				want = append(want, entryOf(key, k, typ, v)...)
				says(t, s, f, want, l...)
			}
			// The other way round they are no list of a map.
			slices.Reverse(l)
			denies(t, s, f, api.ErrType, l...)
			refuses(t, s, "M4", msg("M4", slot(1, l...)), nil, api.ErrType)
		}
	}
}

// P12.2: keys that no set has, but that a field can denote.
func TestOtherKeys(t *testing.T) {
	s := typed(t, api.TInt32, 0)
	for _, key := range []int{api.TBytes, api.TEnum, api.TFloat, api.TDouble} {
		for _, k := range samples()[key] {
			lists(t, s, mapOf(key, api.TBool), entryOf(key, k, api.TBool, sample{num(1), "01"}), entry(k.v, num(1)))
		}
	}
	denies(t, s, mapOf(api.TFloat, api.TBool), api.ErrType, entry(f32(1), num(1)), entry(f32(2), num(1)))
	denies(t, s, mapOf(api.TMsg, api.TBool), api.ErrType, entry(msg("N"), num(1)))
	for _, key := range []int{0, 10, 19, -1, 1<<32 + 5} {
		denies(t, s, mapOf(key, api.TBool), api.ErrType, entry(num(1), num(1)))
		lists(t, s, mapOf(key, api.TBool), nil)
	}
}

// P12.1, P12.2: the integers about all powers of two, of either sign, by fields of each
// type.
func TestIntegers(t *testing.T) {
	s := built(t, `a:message M{int32 a=1;int64 b=2;uint32 c=3;uint64 d=4;sint32 e=5;sint64 f=6;fixed32 g=7;fixed64 h=8;sfixed32 i=9;sfixed64 j=10;}`)
	count := 0
	for n := 1; n <= 10; n++ {
		f := fieldOf(t, s, "M", n)
		for power := range uint(65) {
			for more := int64(-2); more <= 2; more++ {
				for _, sign := range []int64{1, -1} {
					x := new(big.Int).Lsh(big.NewInt(1), power)
					x.Add(x, big.NewInt(more)).Mul(x, big.NewInt(sign))
					abs := new(big.Int).Abs(x)
					if !abs.IsUint64() {
						continue
					}
					v := whole(x.String())
					if ends := bounds[f.Type]; x.Sign() == 0 || x.Cmp(bigOf(ends[0])) < 0 || x.Cmp(bigOf(ends[1])) > 0 {
						denies(t, s, f, api.ErrType, v)
						continue
					}
					count++
					want := []byte(secondRecords(s, f, []api.Val{v}))
					lists(t, s, f, want, v)
					writes(t, s, "M", msg("M", slot(n, v)), nil, want)
				}
			}
		}
	}
	if count < 2000 {
		t.Errorf("only %d", count)
	}
}

// bounds is the least and the greatest integer of the types that hold some.
var bounds = map[int][2]string{
	api.TBool:     {"0", "1"},
	api.TInt32:    {"-2147483648", "2147483647"},
	api.TSint32:   {"-2147483648", "2147483647"},
	api.TSfixed32: {"-2147483648", "2147483647"},
	api.TEnum:     {"-2147483648", "2147483647"},
	api.TUint32:   {"0", "4294967295"},
	api.TFixed32:  {"0", "4294967295"},
	api.TInt64:    {"-9223372036854775808", "9223372036854775807"},
	api.TSint64:   {"-9223372036854775808", "9223372036854775807"},
	api.TSfixed64: {"-9223372036854775808", "9223372036854775807"},
	api.TUint64:   {"0", "18446744073709551615"},
	api.TFixed64:  {"0", "18446744073709551615"},
}

func bigOf(s string) *big.Int {
	n, _ := new(big.Int).SetString(s, 10)
	return n
}
