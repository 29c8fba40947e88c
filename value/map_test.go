package value_test

import (
	"fmt"
	"slices"
	"testing"

	"signetry/api"
)

// keyTypes is the types that keys may have.
var keyTypes = []int{
	api.TInt32, api.TInt64, api.TUint32, api.TUint64, api.TBool, api.TSint32, api.TSint64,
	api.TFixed32, api.TSfixed32, api.TFixed64, api.TSfixed64, api.TString,
}

// rising is keys that a type holds, strictly increasing.
func rising(typ int) (l []api.Val) {
	if typ == api.TString {
		for _, s := range []string{"", "\x00", "\x00\x00", "\x00a", "A", "B", "a", "aa", "aaa", "ab", "b", "ba", "z", "~", "\x7f", "ä", "ää", "\ue000", "\uffff", "\U00010000", "\U0010ffff"} {
			l = append(l, str(s))
		}
		return l
	}
	for _, s := range wholes {
		if e := ends[typ]; bigOf(e[0]).Cmp(bigOf(s)) <= 0 && bigOf(s).Cmp(bigOf(e[1])) <= 0 {
			l = append(l, whole(s))
		}
	}
	return l
}

// P11.1: two entries by increasing keys, by equal ones, by falling ones, for all keys
// of each type.
func TestOrderOfKeys(t *testing.T) {
	for _, key := range keyTypes {
		s, f := typed(t, api.TBool, key), mapOf(key, api.TBool)
		keys := rising(key)
		if len(keys) < 2 {
			t.Fatal(keys)
		}
		for i, a := range keys {
			says(t, s, f, true, entry(a, num(1)))
			for j, b := range keys {
				says(t, s, f, i < j, entry(a, num(0)), entry(b, num(1)))
			}
		}
	}
}

// P11.1: many entries, with two of them exchanged, one twice, or one that is left
// out.
func TestManyKeys(t *testing.T) {
	for _, key := range keyTypes {
		s, f := typed(t, api.TString, key), mapOf(key, api.TString)
		var all []api.Val
		for i, k := range rising(key) {
			all = append(all, entry(k, str(fmt.Sprint(i))))
		}
		says(t, s, f, true, all...)
		for i := range all {
			says(t, s, f, true, slices.Delete(slices.Clone(all), i, i+1)...)
			says(t, s, f, false, slices.Insert(slices.Clone(all), i, all[i])...)
			if i > 0 {
				l := slices.Clone(all)
				l[i-1], l[i] = l[i], l[i-1]
				says(t, s, f, false, l...)
				l = slices.Clone(all)
				l[0], l[i] = l[i], l[0]
				says(t, s, f, false, l...)
			}
		}
		slices.Reverse(all)
		says(t, s, f, false, all...)
	}
}

// P11.1: keys that are not of their type, and values that are not of theirs, for
// each key and each type.
func TestTypesOfEntries(t *testing.T) {
	all := probes()
	for _, key := range keyTypes {
		for typ := range types {
			s, f := typed(t, typ, key), mapOf(key, typ)
			goodKey, goodValue := rising(key)[1], some(typ)[0]
			for _, p := range all {
				says(t, s, f, slices.Contains(p.by, typ), entry(goodKey, p.v))
				says(t, s, f, slices.Contains(p.by, key), entry(p.v, goodValue))
			}
		}
	}
}

// P11.1: an entry has no name, just two slots, 1 and 2, of one value each, and nothing
// else.
func TestEntries(t *testing.T) {
	s, f := typed(t, api.TBool, api.TInt32), mapOf(api.TInt32, api.TBool)
	a, b := num(-5), num(1)
	says(t, s, f, true)
	says(t, s, f, true, entry(a, b))
	says(t, s, f, true, api.Val{Kind: api.KMsg, B: []byte{}, F: entry(a, b).F})
	wrong := []api.Val{
		{}, a, b, str(""), f32(1), msg(""), msg("N"), msg("M4"),
		msg("", slot(1, a)), msg("", slot(2, b)), msg("", slot(1, a), slot(2, b), slot(3, b)), msg("", slot(1, a), slot(2, b), slot(3)),
		msg("", slot(0, a), slot(1, a), slot(2, b)), msg("", slot(0), slot(1, a), slot(2, b)),
		msg("", slot(2, b), slot(1, a)), msg("", slot(1, a), slot(1, b)), msg("", slot(2, a), slot(2, b)), msg("", slot(0, a), slot(1, b)), msg("", slot(1, a), slot(3, b)),
		msg("", slot(-1, a), slot(2, b)), msg("", slot(1<<32+1, a), slot(2, b)), msg("", slot(1, a), slot(1<<32+2, b)),
		msg("", slot(1), slot(2, b)), msg("", slot(1, a), slot(2)), msg("", slot(1), slot(2)),
		msg("", slot(1, a, a), slot(2, b)), msg("", slot(1, a, num(-4)), slot(2, b)), msg("", slot(1, a), slot(2, b, b)), msg("", slot(1, a), slot(2, b, num(0))),
		msg("N", slot(1, a), slot(2, b)), msg("M4", slot(1, a), slot(2, b)), msg("M4.1Entry", slot(1, a), slot(2, b)), msg("E", slot(1, a), slot(2, b)),
		{F: entry(a, b).F}, {Kind: api.KInt, F: entry(a, b).F}, {Kind: api.KBytes, F: entry(a, b).F}, {Kind: 6, F: entry(a, b).F},
		{Kind: api.KMsg, Neg: true, F: entry(a, b).F}, {Kind: api.KMsg, Mag: 1, F: entry(a, b).F}, {Kind: api.KMsg, B: []byte("a"), F: entry(a, b).F},
		entry(entry(a, b), b), entry(a, entry(a, b)),
	}
	for _, v := range wrong {
		says(t, s, f, false, v)
		says(t, s, f, false, entry(num(-6), b), v)
		says(t, s, f, false, v, entry(num(6), b))
	}
}

// P11.1: maps of messages, in maps.
func TestMapsOfMessages(t *testing.T) {
	s := built(t, "a:message M{map<string,M>m=1;}message N{map<bool,N>m=1;}")
	inner := msg("M", slot(1, entry(str(""), msg("M")), entry(str("a"), msg("M", slot(1, entry(str("b"), msg("M")))))))
	checks(t, s, "M", inner, api.OK)
	checks(t, s, "M", msg("M", slot(1, entry(str("a"), inner), entry(str("aa"), inner))), api.OK)
	checks(t, s, "M", msg("M", slot(1, entry(str("a"), inner), entry(str("a"), inner))), api.ErrType)
	checks(t, s, "M", msg("M", slot(1, entry(str("a"), msg("N")))), api.ErrType)
	checks(t, s, "M", msg("M", slot(1, entry(str("a"), msg("")))), api.ErrType)
	checks(t, s, "M", msg("M", slot(1, entry(str("a"), msg("M", slot(1, entry(str("b"), msg("M")), entry(str("a"), msg("M"))))))), api.ErrType)
	checks(t, s, "N", msg("N", slot(1, entry(num(0), msg("N")), entry(num(1), msg("N")))), api.OK)
	checks(t, s, "N", msg("N", slot(1, entry(num(0), inner))), api.ErrType)
}

// P11.1: a Key that no field has. What is no type holds nothing; keys that are neither
// integers nor bytes have no order; messages without a Ref are none.
func TestOtherKeys(t *testing.T) {
	s := typed(t, api.TInt32, 0)
	for _, key := range notTypes {
		for _, p := range probes() {
			denotes(t, s, mapOf(key, api.TBool), false, entry(p.v, num(1)))
		}
	}
	for _, v := range []api.Val{msg("N"), msg("")} {
		denotes(t, s, mapOf(api.TMsg, api.TMsg), false, entry(v, msg("N")))
	}
	denotes(t, s, mapOf(api.TDouble, api.TBool), false, entry(f64(1), num(1)), entry(f64(2), num(1)))
	denotes(t, s, mapOf(api.TBytes, api.TBool), true, entry(str("a"), num(1)), entry(str("\xff"), num(1)))
	denotes(t, s, mapOf(api.TEnum, api.TBool), true, entry(num(-1), num(1)), entry(num(1), num(1)))
}
