package value_test

import (
	"strings"
	"testing"

	"signetry/api"
	"signetry/build"
)

// treeOf is a set of messages that have each other.
const treeOf = `a:message M{int32 a=1;M m=2;repeated M l=3;map<int32,M>k=4;repeated int32 r=5;map<bool,int32>b=6;oneof o{int32 x=7;M y=8;string z=9;}oneof p{int32 u=10;int32 v=11;}}message N{}enum E{Z=0;}service S{}`

// wrongSets is sets that are not valid.
func wrongSets(t *testing.T) (l []api.Set) {
	for _, spoil := range []func(s *api.Set){
		func(s *api.Set) { s.Files = nil },
		func(s *api.Set) { s.Msgs[0].Path = "b" },
		func(s *api.Set) { s.Msgs[0].Fields[0].Num = 0 },
		func(s *api.Set) { s.Msgs[0].Fields[0].Type = 10 },
		func(s *api.Set) { s.Msgs[0].Fields[1].Card = api.One },
		func(s *api.Set) { s.Msgs[1].Name = "M" },
		func(s *api.Set) { s.Msgs[0], s.Msgs[1] = s.Msgs[1], s.Msgs[0] },
		func(s *api.Set) { s.Enums[0].Values[0].Num = 1 },
		func(s *api.Set) { s.Svcs[0].Name = "a.S" },
	} {
		s := built(t, treeOf)
		spoil(&s)
		if build.Check(s) != api.ErrArg {
			t.Errorf("%+v is valid", s)
		}
		l = append(l, s)
	}
	return l
}

// P11.1: a set that is not valid, ahead of all else.
func TestWrongSets(t *testing.T) {
	for _, s := range wrongSets(t) {
		checks(t, s, "M", msg("M"), api.ErrArg)
		checks(t, s, "M", msg("M", slot(1, num(1))), api.ErrArg)
		checks(t, s, "X", msg("M"), api.ErrArg)
		checks(t, s, "M", nest(31, "M", 2), api.ErrArg)
		checks(t, s, "M", api.Val{}, api.ErrArg)
		denotes(t, s, plain(api.TInt32, api.One), false)
		denotes(t, s, plain(api.TInt32, api.One), false, num(1))
		denotes(t, s, plain(api.TString, api.Rep), false, str("a"), str("a"))
	}
}

// P11.1: a name of no message, ahead of the value.
func TestWrongNames(t *testing.T) {
	s := built(t, treeOf, "b:package p;message M{message M{}}")
	for _, name := range []string{"", ".", "X", "E", "S", "m", "M.", ".M", "M.M", "p", "p.m", "p.M.M.M", ".p.M", "M ", "\xff", strings.Repeat("M", 1000)} {
		checks(t, s, name, msg(name), api.ErrName)
		checks(t, s, name, msg("M"), api.ErrName)
		checks(t, s, name, api.Val{}, api.ErrName)
		checks(t, s, name, nest(31, "M", 2), api.ErrName)
	}
	checks(t, api.Set{}, "M", msg("M"), api.ErrName)
	for _, name := range []string{"M", "N", "p.M", "p.M.M"} {
		checks(t, s, name, msg(name), api.OK)
		for _, other := range []string{"", "M", "N", "p.M", "p.M.M", "E", "X", name + ".M", "." + name, name + "x"} {
			if other != name {
				checks(t, s, name, msg(other), api.ErrType)
			}
		}
	}
}

// P11.1: a value that is no message, or has what no message has.
func TestWrongMessages(t *testing.T) {
	s := built(t, treeOf)
	for kind := -3; kind < 9; kind++ {
		v := msg("M")
		v.Kind = kind
		want := api.ErrType
		if kind == api.KMsg {
			want = api.OK
		}
		checks(t, s, "M", v, want)
		v.F = []api.Slot{slot(1, num(1))}
		checks(t, s, "M", v, want)
	}
	checks(t, s, "M", api.Val{}, api.ErrType)
	checks(t, s, "M", num(0), api.ErrType)
	for _, inside := range [][]api.Slot{nil, {slot(1, num(1))}} {
		for _, spoil := range []func(v *api.Val){
			func(v *api.Val) { v.Neg = true },
			func(v *api.Val) { v.Mag = 1 },
			func(v *api.Val) { v.Mag = 1 << 63 },
			func(v *api.Val) { v.B = []byte{0} },
			func(v *api.Val) { v.B = []byte("M") },
		} {
			v := msg("M", inside...)
			checks(t, s, "M", v, api.OK)
			spoil(&v)
			checks(t, s, "M", v, api.ErrType)
			checks(t, s, "M", msg("M", slot(2, v)), api.ErrType)
			denotes(t, s, api.Field{Type: api.TMsg, Card: api.Opt, Ref: "M"}, false, v)
		}
		empty := msg("M", inside...)
		empty.B = []byte{}
		checks(t, s, "M", empty, api.OK)
	}
	checks(t, s, "M", api.Val{Kind: api.KMsg, Name: "M", F: []api.Slot{}}, api.OK)
}

// P11.1: slots with numbers that do not rise, that stand twice, that no field has.
func TestSlotNumbers(t *testing.T) {
	s := built(t, treeOf)
	one, two, five := slot(1, num(1)), slot(2, msg("M")), slot(5, num(0))
	for _, l := range [][]api.Slot{{one}, {two}, {five}, {one, two}, {one, five}, {two, five}, {one, two, five}} {
		checks(t, s, "M", msg("M", l...), api.OK)
	}
	for _, l := range [][]api.Slot{
		{two, one}, {five, one}, {five, two}, {one, five, two}, {two, one, five}, {five, two, one}, {two, five, one},
		{one, one}, {two, two}, {one, one, two}, {one, two, two}, {one, two, one}, {five, five},
	} {
		checks(t, s, "M", msg("M", l...), api.ErrType)
		checks(t, s, "M", msg("M", slot(2, msg("M", l...))), api.ErrType)
	}
	for _, n := range []int{0, -1, -2, 12, 13, 100, 1<<29 - 1, 1 << 29, 1<<32 + 1, -1 << 63, 1<<63 - 1} {
		for _, l := range [][]api.Val{{num(1)}, {msg("M")}, {str("")}, {}} {
			checks(t, s, "M", msg("M", slot(n, l...)), api.ErrType)
		}
		l := []api.Slot{slot(n, num(1)), one, two}
		if n > 1 {
			l = []api.Slot{one, two, slot(n, num(1))}
		}
		checks(t, s, "M", msg("M", l...), api.ErrType)
	}
	checks(t, s, "N", msg("N", one), api.ErrType)
}

// P11.1: a slot with an empty list, of each card.
func TestEmptySlots(t *testing.T) {
	s := built(t, treeOf)
	for n := 1; n <= 11; n++ {
		for _, none := range [][]api.Val{nil, {}} {
			checks(t, s, "M", msg("M", api.Slot{Num: n, L: none}), api.ErrType)
			checks(t, s, "M", msg("M", slot(2, msg("M", api.Slot{Num: n, L: none}))), api.ErrType)
			if n > 1 {
				checks(t, s, "M", msg("M", slot(1, num(1)), api.Slot{Num: n, L: none}), api.ErrType)
			}
			if n < 11 {
				checks(t, s, "M", msg("M", api.Slot{Num: n, L: none}, slot(11, num(1))), api.ErrType)
			}
			denotes(t, s, fieldOf(t, s, "M", n), true, none...)
		}
	}
}

// P11.1: of the fields of a oneof at most one has a slot.
func TestOneofs(t *testing.T) {
	s := built(t, treeOf)
	of := map[int]api.Slot{
		1: slot(1, num(1)), 7: slot(7, num(0)), 8: slot(8, msg("M")), 9: slot(9, str("")), 10: slot(10, num(0)), 11: slot(11, num(0)),
	}
	numbers := []int{1, 7, 8, 9, 10, 11}
	for some := range 1 << len(numbers) {
		var l []api.Slot
		first, second := 0, 0
		for i, n := range numbers {
			if some>>i&1 == 1 {
				l = append(l, of[n])
				if n >= 7 && n <= 9 {
					first++
				}
				if n >= 10 {
					second++
				}
			}
		}
		want := api.OK
		if first > 1 || second > 1 {
			want = api.ErrType
		}
		checks(t, s, "M", msg("M", l...), want)
		checks(t, s, "M", msg("M", slot(8, msg("M", l...))), want)
	}
	// Different values may have different fields of it.
	checks(t, s, "M", msg("M", slot(3, msg("M", of[7]), msg("M", of[8]), msg("M", of[9])), of[7]), api.OK)
}

// P11.1: what is wrong inside of a value, at any depth and in each card.
func TestWrongInside(t *testing.T) {
	s := built(t, treeOf)
	around := []func(v api.Val) api.Val{
		func(v api.Val) api.Val { return msg("M", slot(2, v)) },
		func(v api.Val) api.Val { return msg("M", slot(3, v)) },
		func(v api.Val) api.Val { return msg("M", slot(3, msg("M"), v, msg("M"))) },
		func(v api.Val) api.Val { return msg("M", slot(4, entry(num(1), v))) },
		func(v api.Val) api.Val {
			return msg("M", slot(4, entry(num(1), msg("M")), entry(num(2), v), entry(num(3), msg("M"))))
		},
		func(v api.Val) api.Val { return msg("M", slot(8, v)) },
		func(v api.Val) api.Val { return msg("M", slot(1, num(1)), slot(2, v), slot(5, num(1))) },
	}
	right := []api.Val{msg("M"), msg("M", slot(1, num(-1))), msg("M", slot(6, entry(num(0), num(0)))), msg("M", slot(9, str("ä")))}
	wrong := []api.Val{
		msg("N"), msg(""), num(1), str("M"), {}, msg("M", slot(1, num(0))), msg("M", slot(1, str(""))), msg("M", slot(12, num(1))),
		msg("M", slot(6, entry(num(2), num(0)))), msg("M", slot(9, str("\xff"))), entry(num(1), num(1)), msg("M", slot(1)),
	}
	for range 3 {
		var nextRight, nextWrong []api.Val
		for _, put := range around {
			for _, v := range right {
				nextRight = append(nextRight, put(v))
			}
			for _, v := range wrong {
				nextWrong = append(nextWrong, put(v))
			}
		}
		for _, v := range nextRight {
			checks(t, s, "M", v, api.OK)
		}
		for _, v := range nextWrong {
			checks(t, s, "M", v, api.ErrType)
		}
		// All of them would be too many, three deep.
		right, wrong = nextRight, nextWrong[:min(len(nextWrong), 200)]
	}
}

// P11.1: a field that the set has not, or cannot have, denotes by its type, its Ref,
// its card and its Key alone, and an empty list whatever it is.
func TestFieldsOfNoMessage(t *testing.T) {
	s := built(t, treeOf)
	for _, f := range []api.Field{
		{Type: api.TInt32, Card: api.Opt},
		{Type: api.TInt32, Card: api.Opt, Num: -1, Oneof: 99, Name: "1", Json: "-"},
		{Type: api.TInt32, Card: api.Opt, Key: 10, Ref: "X"},
		{Type: api.TInt32, Card: api.Rep, Num: 1, Name: "a", Json: "a"},
	} {
		denotes(t, s, f, true, num(1))
		denotes(t, s, f, false, str("a"))
		denotes(t, api.Set{}, f, true, num(1))
	}
	m := api.Field{Type: api.TMsg, Card: api.Opt, Ref: "M"}
	denotes(t, s, m, true, msg("M"))
	denotes(t, api.Set{}, m, false, msg("M"))
	for _, ref := range []string{"", "X", "E", "S", ".M", "M.M"} {
		m.Ref = ref
		denotes(t, s, m, false, msg(ref))
		denotes(t, s, m, false, msg("M"))
		denotes(t, s, m, true)
	}
	for _, card := range []int{0, 5, -1, 6, 1<<32 + 1, -1 << 63, 1<<63 - 1} {
		denotes(t, s, plain(api.TInt32, card), false, num(1))
		denotes(t, s, plain(api.TInt32, card), false, entry(num(1), num(1)))
		denotes(t, s, plain(api.TInt32, card), true)
	}
	for _, f := range []api.Field{{}, {Card: 9, Type: 99}, {Card: api.Map, Key: -1}} {
		denotes(t, s, f, true)
		denotes(t, api.Set{}, f, true)
		denotes(t, s, f, false, api.Val{})
		denotes(t, s, f, false, num(0))
	}
}

// P11.1: what a message of another set is has no part in it.
func TestOtherSets(t *testing.T) {
	older, newer := built(t, "a:message M{int32 a=1;}"), built(t, "a:message M{string a=1;int32 b=2;}")
	v := msg("M", slot(1, num(1)))
	checks(t, older, "M", v, api.OK)
	checks(t, newer, "M", v, api.ErrType)
	checks(t, newer, "M", msg("M", slot(2, num(1))), api.OK)
	checks(t, older, "M", msg("M", slot(2, num(1))), api.ErrType)
	f := api.Field{Type: api.TMsg, Card: api.Opt, Ref: "M"}
	denotes(t, older, f, true, v)
	denotes(t, newer, f, false, v)
}

// P11.1: a message that is nested, one of another file, and one of a package.
func TestNames(t *testing.T) {
	s := built(t,
		`a:package p;import"b";message M{message N{M m=1;.q.M o=2;E e=3;}enum E{Z=0;}N n=1;}`,
		`b:package q;message M{int32 a=1;}`)
	n := msg("p.M.N", slot(1, msg("p.M")), slot(2, msg("q.M", slot(1, num(1)))), slot(3, num(7)))
	checks(t, s, "p.M.N", n, api.OK)
	checks(t, s, "p.M", msg("p.M", slot(1, n)), api.OK)
	checks(t, s, "q.M", msg("q.M", slot(1, num(1))), api.OK)
	checks(t, s, "p.M", msg("q.M"), api.ErrType)
	checks(t, s, "p.M.N", msg("p.M.N", slot(1, msg("q.M"))), api.ErrType)
	checks(t, s, "p.M.N", msg("p.M.N", slot(2, msg("p.M"))), api.ErrType)
	checks(t, s, "p.M.N", msg("N"), api.ErrType)
	checks(t, s, "N", n, api.ErrName)
}
