package enc_test

import (
	"testing"

	"signetry/api"
	"signetry/build"
	"signetry/value"
)

// treeOf is a set of messages that have each other.
const treeOf = `a:message M{int32 a=1;M m=2;repeated M l=3;map<int32,M>k=4;repeated int32 r=5;map<bool,int32>b=6;oneof o{int32 x=7;M y=8;string z=9;}oneof p{int32 u=10;int32 v=11;}bytes t=12;repeated bytes w=13;}message N{}enum E{Z=0;}service S{}`

// wrongSets is sets that are not valid.
func wrongSets(t *testing.T) (l []api.Set) {
	for _, spoil := range []func(s *api.Set){
		func(s *api.Set) { s.Files = nil },
		func(s *api.Set) { s.Files = append(s.Files, s.Files[0]) },
		func(s *api.Set) { s.Msgs[0].Path = "b" },
		func(s *api.Set) { s.Msgs[0].Fields[0].Num = 0 },
		func(s *api.Set) { s.Msgs[0].Fields[0].Type = 10 },
		func(s *api.Set) { s.Msgs[0].Fields[1].Card = api.One },
		func(s *api.Set) { s.Msgs[0].Fields[2].Ref = "X" },
		func(s *api.Set) { s.Msgs[0].Fields[3].Key = api.TEnum },
		func(s *api.Set) { s.Msgs[1].Name = "M" },
		func(s *api.Set) { s.Msgs[0], s.Msgs[1] = s.Msgs[1], s.Msgs[0] },
		func(s *api.Set) { s.Enums[0].Values[0].Num = 1 },
		func(s *api.Set) { s.Svcs[0].Name = "a.S" },
	} {
		s := built(t, treeOf)
		spoil(&s)
		if build.Check(s) != api.ErrArg {
			t.Errorf("%+v is valid", s)
		}
		l = append(l, s)
	}
	return l
}

// tooMany is a value with more values than there may be, tooDeep is one that is too
// deep, and tooLong is one with more bytes than there may be.
func tooMany() api.Val { return msg("M", slot(5, times(api.MaxNodes, num(1))...)) }
func tooDeep() api.Val { return nest(31, "M", 2) }
func tooLong() api.Val { return msg("M", slot(12, str(string(make([]byte, api.MaxBytes))))) }

// P12.1, P12.2: a set that is not valid, ahead of all else.
func TestWrongSets(t *testing.T) {
	good := built(t, treeOf)
	for _, s := range wrongSets(t) {
		for _, v := range []api.Val{msg("M"), msg("M", slot(1, num(1))), {}, num(1), msg("M", slot(99)), tooMany(), tooDeep(), tooLong()} {
			for _, name := range []string{"M", "N", "", "X", "a.b"} {
				for _, order := range [][]int{nil, {1}, {2}, {1, 1}} {
					refuses(t, s, name, v, order, api.ErrArg)
				}
			}
			for _, f := range append([]api.Field{{}, plain(api.TInt32, api.Opt)}, good.Msgs[0].Fields...) {
				denies(t, s, f, api.ErrArg, v)
				denies(t, s, f, api.ErrArg)
			}
		}
		denies(t, s, plain(api.TInt32, api.Opt), api.ErrArg, num(1))
	}
}

// P12.1: a name of no message, ahead of all that is wrong with the value or the order.
func TestNamesOfNoMessage(t *testing.T) {
	s := built(t, treeOf, `b:package p;message M{message N{}}`)
	for _, name := range []string{"", "X", "E", "S", "a", ".M", "M.", "M.M", "m", "M\x00", "p", "p.N", ".p.M", "p.M.", "\xff"} {
		for _, v := range []api.Val{msg(name), msg("M"), msg("M", slot(1, num(1))), {}, tooMany(), tooDeep(), tooLong()} {
			refuses(t, s, name, v, nil, api.ErrName)
			refuses(t, s, name, v, []int{1}, api.ErrName)
			refuses(t, s, name, v, []int{5, 5}, api.ErrName)
			refuses(t, api.Set{}, name, v, nil, api.ErrName)
		}
	}
	for _, name := range []string{"M", "N", "p.M", "p.M.N"} {
		writes(t, s, name, msg(name), nil, nil)
		refuses(t, api.Set{}, name, msg(name), nil, api.ErrName)
	}
}

// P12.1: a value that exceeds the limits, ahead of what else is wrong with it, and of
// the order.
func TestTooGreatValues(t *testing.T) {
	s := built(t, treeOf)
	for _, v := range []api.Val{tooMany(), tooDeep()} {
		for _, order := range [][]int{nil, {2}, {5}, {1}, {5, 5}} {
			refuses(t, s, "M", v, order, api.ErrLimit)
			refuses(t, s, "N", v, order, api.ErrLimit)
			wrong := v
			wrong.Neg = true
			refuses(t, s, "M", wrong, order, api.ErrLimit)
		}
		denies(t, s, fieldOf(t, s, "M", 2), api.ErrType, v)
		denies(t, s, fieldOf(t, s, "M", 3), api.ErrType, msg("M"), v)
		denies(t, s, fieldOf(t, s, "M", 4), api.ErrType, entry(num(1), v))
	}
	// One less is not too great.
	v := msg("M", slot(5, times(api.MaxNodes-1, num(1))...))
	writes(t, s, "M", v, nil, []byte(secondBytes(s, "M", v, nil)))
	v = nest(30, "M", 2)
	writes(t, s, "M", v, []int{2}, []byte(secondBytes(s, "M", v, nil)))
}

// wrongValues is values that are none of M.
func wrongValues() []api.Val {
	a := slot(1, num(1))
	return []api.Val{
		{}, num(1), f32(1), f64(1), str("M"), msg(""), msg("N"), msg("X"), {Kind: 6, Name: "M"}, {Kind: -1, Name: "M"},
		{Kind: api.KMsg, Name: "M", Neg: true}, {Kind: api.KMsg, Name: "M", Mag: 1}, {Kind: api.KMsg, Name: "M", B: []byte("a")},
		msg("M", slot(1)), msg("M", slot(1, num(0))), msg("M", slot(1, whole("-0"))), msg("M", slot(1, num(1), num(1))), msg("M", slot(1, str("a"))), msg("M", slot(1, num(1<<31))), msg("M", slot(1, num(-1<<31-1))),
		msg("M", a, a), msg("M", slot(5, num(1)), a), msg("M", a, slot(14, num(1))), msg("M", slot(0, num(1)), a), msg("M", slot(-1, num(1))), msg("M", slot(1<<32+1, num(1))),
		msg("M", slot(2, num(1))), msg("M", slot(2, msg("N"))), msg("M", slot(2, msg("M"), msg("M"))), msg("M", slot(2, msg("M", slot(1, num(0))))),
		msg("M", slot(3, msg("M"), msg("N"))), msg("M", slot(3, msg("M"), num(1))), msg("M", slot(5, num(1), str(""))), msg("M", slot(5, num(1), num(1<<31))),
		msg("M", slot(4, entry(num(2), msg("M")), entry(num(1), msg("M")))), msg("M", slot(4, entry(num(1), msg("N")))), msg("M", slot(4, msg("M"))), msg("M", slot(6, entry(num(2), num(1)))),
		msg("M", slot(6, msg("", slot(1, num(1))))), msg("M", slot(6, msg("", slot(2, num(1))))), msg("M", slot(6, entry(num(0), num(1)), entry(num(0), num(1)))),
		msg("M", slot(7, num(0)), slot(8, msg("M"))), msg("M", slot(10, num(0)), slot(11, num(0))), msg("M", slot(9, str("\xff"))),
	}
}

// P12.1: values that are none of their message, ahead of orders that are none.
func TestWrongValues(t *testing.T) {
	s := built(t, treeOf)
	for _, v := range wrongValues() {
		if value.Check(s, "M", v) != api.ErrType {
			t.Errorf("%s is one", told(v))
		}
		for _, order := range [][]int{nil, {1}, {2}, {1, 1}, {-1}} {
			refuses(t, s, "M", v, order, api.ErrType)
		}
		refuses(t, s, "M", msg("M", slot(2, v)), nil, api.ErrType)
		refuses(t, s, "M", msg("M", slot(3, msg("M"), v)), nil, api.ErrType)
		refuses(t, s, "M", msg("M", slot(4, entry(num(1), v))), nil, api.ErrType)
	}
	for _, v := range []api.Val{msg("M"), msg("M", slot(1, num(1)))} {
		refuses(t, s, "N", v, nil, api.ErrType)
	}
	// Too long, but wrong as well.
	v := tooLong()
	v.F[0].L = append(v.F[0].L, str("x"))
	refuses(t, s, "M", v, nil, api.ErrType)
}

// P12.1: an order that is none, ahead of bytes that are too many.
func TestOrderAndLimit(t *testing.T) {
	s := built(t, treeOf)
	v := tooLong()
	refuses(t, s, "M", v, nil, api.ErrLimit)
	refuses(t, s, "M", v, []int{12}, api.ErrLimit)
	refuses(t, s, "M", v, []int{1}, api.ErrOrder)
	refuses(t, s, "M", v, []int{12, 12}, api.ErrOrder)
}

// P12.2: lists that a field does not denote, for fields of each card, also if they are
// too long besides.
func TestWrongLists(t *testing.T) {
	s := built(t, treeOf)
	long := str(string(make([]byte, api.MaxBytes)))
	for n, wrong := range map[int][][]api.Val{
		1:  {{num(0)}, {num(1), num(2)}, {str("")}, {num(1 << 31)}, {msg("M")}, {{}}, {f32(1)}, {entry(num(1), num(1))}},
		2:  {{msg("N")}, {msg("M"), msg("M")}, {msg("")}, {num(1)}, {msg("M", slot(1, num(0)))}},
		3:  {{msg("M"), msg("N")}, {num(1)}, {msg("M"), {}}, {msg("M", slot(12, long), slot(13, long)), msg("N")}},
		4:  {{entry(num(2), msg("M")), entry(num(1), msg("M"))}, {entry(num(1), msg("M")), entry(num(1), msg("M"))}, {entry(num(1), msg("N"))}, {msg("M")}, {entry(str(""), msg("M"))}},
		5:  {{num(1), str("")}, {num(1), num(1 << 31)}, {whole("-0")}, {entry(num(1), num(1))}, append(times(api.MaxBytes, num(1)), str(""))},
		6:  {{entry(num(2), num(1))}, {num(1)}, {msg("", slot(1, num(1)))}},
		7:  {{num(0), num(0)}, {str("")}},
		9:  {{str("\xff")}, {str("a"), str("a")}},
		12: {{str("")}, {long, long}},
		13: {{long, long, num(1)}, {long, {}}},
	} {
		f := fieldOf(t, s, "M", n)
		for _, l := range wrong {
			if value.Denotes(s, f, l) {
				t.Errorf("%+v denotes %s", f, toldAll(l))
			}
			denies(t, s, f, api.ErrType, l...)
		}
	}
}

// P12.2: types, cards and references that no field has.
func TestFieldsOfNoMessage(t *testing.T) {
	s := built(t, treeOf)
	for _, typ := range []int{0, 10, 19, -1, 100, 1<<32 + 5, -1 << 63, 1<<63 - 1} {
		for card := api.One; card <= api.Map; card++ {
			for _, v := range []api.Val{num(1), str("a"), f32(1), f64(1), msg("M"), entry(num(1), num(1)), {}} {
				f := plain(typ, card)
				denies(t, s, f, api.ErrType, v)
				f.Key = api.TInt32
				denies(t, s, f, api.ErrType, v)
			}
		}
	}
	for _, card := range []int{0, 5, -1, 6, 1<<32 + 1, -1 << 63, 1<<63 - 1} {
		for typ, l := range samples() {
			denies(t, s, plain(typ, card), api.ErrType, l[1].v)
			denies(t, s, plain(typ, card), api.ErrType, entry(num(1), l[1].v))
			lists(t, s, plain(typ, card), nil)
		}
	}
	m := api.Field{Num: 1, Type: api.TMsg, Card: api.Opt, Ref: "M"}
	lists(t, s, m, raw("0a00"), msg("M"))
	denies(t, api.Set{}, m, api.ErrType, msg("M"))
	for _, ref := range []string{"", "X", "E", "S", ".M", "M.M"} {
		m.Ref = ref
		denies(t, s, m, api.ErrType, msg(ref))
		denies(t, s, m, api.ErrType, msg("M"))
	}
	// A field that has more, or is in no message, as far as its type and its card matter.
	lists(t, s, api.Field{Num: 3, Type: api.TInt32, Card: api.Opt, Key: 10, Ref: "X", Oneof: 77, Name: "1", Json: "-"}, raw("1805"), num(5))
	lists(t, api.Set{}, api.Field{Num: 3, Type: api.TBytes, Card: api.Opt}, raw("1a00"), str(""))
	lists(t, api.Set{}, mapOf(api.TString, api.TDouble), raw("0a0c 0a0161 110200000000000000"), entry(str("a"), f64(2)))
	one := api.Field{Num: 3, Type: api.TMsg, Card: api.One, Ref: "M"}
	lists(t, s, one, raw("1a00"), msg("M"))
}
