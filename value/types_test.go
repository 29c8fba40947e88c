package value_test

import (
	"math/big"
	"slices"
	"strings"
	"testing"

	"signetry/api"
	"signetry/value"
)

// wholes is integers at the ends of what types hold, and beside them.
var wholes = []string{
	"-18446744073709551615", "-9223372036854775809", "-9223372036854775808", "-9223372036854775807", "-4294967297", "-4294967296", "-4294967295",
	"-2147483649", "-2147483648", "-2147483647", "-129", "-128", "-2", "-1", "0", "1", "2", "127", "128", "255", "256",
	"2147483647", "2147483648", "4294967295", "4294967296", "9223372036854775807", "9223372036854775808", "18446744073709551615",
}

// ends is the least and the greatest integer of the types that hold some.
var ends = map[int][2]string{
	api.TBool:     {"0", "1"},
	api.TInt32:    {"-2147483648", "2147483647"},
	api.TSint32:   {"-2147483648", "2147483647"},
	api.TSfixed32: {"-2147483648", "2147483647"},
	api.TEnum:     {"-2147483648", "2147483647"},
	api.TUint32:   {"0", "4294967295"},
	api.TFixed32:  {"0", "4294967295"},
	api.TInt64:    {"-9223372036854775808", "9223372036854775807"},
	api.TSint64:   {"-9223372036854775808", "9223372036854775807"},
	api.TSfixed64: {"-9223372036854775808", "9223372036854775807"},
	api.TUint64:   {"0", "18446744073709551615"},
	api.TFixed64:  {"0", "18446744073709551615"},
}

// bigOf is the number of a sign and of digits, or of both in one.
func bigOf(s ...string) *big.Int {
	n, _ := new(big.Int).SetString(strings.Join(s, ""), 10)
	return n
}

// probe is a value, and the types that hold it.
type probe struct {
	v  api.Val
	by []int
}

// probes is values of all kinds. Those of messages are for the sets of typed.
func probes() (l []probe) {
	for _, s := range wholes {
		p := probe{v: whole(s)}
		for typ, e := range ends {
			if bigOf(e[0]).Cmp(bigOf(s)) <= 0 && bigOf(s).Cmp(bigOf(e[1])) <= 0 {
				p.by = append(p.by, typ)
			}
		}
		l = append(l, p)
	}
	for _, bits := range []uint64{0, 1, 0x3f800000, 0x7fc00001, 1 << 31, 1<<32 - 1} {
		l = append(l, probe{f32(bits), []int{api.TFloat}}, probe{f64(bits), []int{api.TDouble}})
	}
	for _, bits := range []uint64{1 << 32, 1<<32 + 1, 1<<63 - 1, 1 << 63, 0x7ff8000000000001, 1<<64 - 1} {
		l = append(l, probe{f32(bits), nil}, probe{f64(bits), []int{api.TDouble}})
	}
	for _, s := range []string{"", "a", "\x00", "ä", "€", "\U0001F600", "\uFFFD", "a\nb"} {
		l = append(l, probe{str(s), []int{api.TString, api.TBytes}})
	}
	for _, s := range []string{"\xff", "\xc3", "a\x80", "\xc0\x80", "\xed\xa0\x80", "\xf4\x90\x80\x80", "ä\xc3"} {
		l = append(l, probe{str(s), []int{api.TBytes}})
	}
	for _, v := range []api.Val{msg("N"), msg("N", slot(1, num(1))), msg("N", slot(2, msg("N", slot(1, num(-1)))))} {
		l = append(l, probe{v, []int{api.TMsg}})
	}
	for _, v := range []api.Val{msg(""), msg("E"), msg("X"), msg("N", slot(1, num(0))), msg("N", slot(3, num(1))), entry(str("a"), num(1)), whole("-0")} {
		l = append(l, probe{v, nil})
	}
	for _, kind := range []int{0, 6, -1, 1<<32 + 1, -1 << 63, 1<<63 - 1} {
		l = append(l, probe{api.Val{Kind: kind}, nil}, probe{api.Val{Kind: kind, Mag: 1}, nil}, probe{api.Val{Kind: kind, B: []byte("a")}, nil}, probe{api.Val{Kind: kind, Name: "N"}, nil})
	}
	return l
}

// more is what a value may have that those of its kind have not.
func more(v api.Val) (l []api.Val) {
	add := func(change func(v *api.Val), kinds ...int) {
		if o := v; !slices.Contains(kinds, v.Kind) {
			change(&o)
			l = append(l, o)
		}
	}
	add(func(v *api.Val) { v.Neg = true }, api.KInt)
	for _, mag := range []uint64{1, 1 << 32, 1<<64 - 1} {
		add(func(v *api.Val) { v.Mag = mag }, api.KInt, api.KF32, api.KF64)
	}
	for _, b := range []string{"\x00", "a", "ä"} {
		add(func(v *api.Val) { v.B = []byte(b) }, api.KBytes)
	}
	for _, name := range []string{"N", "E", "X", "."} {
		add(func(v *api.Val) { v.Name = name }, api.KMsg)
	}
	for _, f := range [][]api.Slot{{{}}, {slot(1)}, {slot(1, num(1))}, {slot(2, msg("N"))}, {slot(1, num(1)), slot(2, num(1))}} {
		add(func(v *api.Val) { v.F = f }, api.KMsg)
	}
	return l
}

// isZero tells whether a value is a zero value.
func isZero(v api.Val) bool {
	return slices.Contains([]string{"int 0", "f32 0", "f64 0", `bytes ""`}, told(v))
}

// P11.1: each type holds each value of its kind that is in its bounds, and no other
// one.
func TestTypes(t *testing.T) {
	for typ := range types {
		s := typed(t, typ, api.TInt32)
		for _, p := range probes() {
			held := slices.Contains(p.by, typ)
			says(t, s, plain(typ, api.One), held && !isZero(p.v), p.v)
			says(t, s, plain(typ, api.Opt), held, p.v)
			says(t, s, plain(typ, api.Rep), held, p.v)
			says(t, s, mapOf(api.TInt32, typ), held, entry(num(1), p.v))
			says(t, s, mapOf(api.TInt32, typ), false, p.v)
		}
	}
}

// P11.1: what is no type holds nothing.
func TestNoTypes(t *testing.T) {
	s := typed(t, api.TInt32, 0)
	for _, typ := range notTypes {
		for _, card := range []int{api.One, api.Opt, api.Rep, api.Map} {
			denotes(t, s, plain(typ, card), true)
			for _, p := range probes() {
				denotes(t, s, plain(typ, card), false, p.v)
				denotes(t, s, mapOf(api.TInt32, typ), false, entry(num(1), p.v))
			}
		}
	}
}

// P11.1: what must be 0 or empty is.
func TestNothingMore(t *testing.T) {
	count := 0
	for typ := range types {
		s := typed(t, typ, api.TInt32)
		for _, p := range probes() {
			if !slices.Contains(p.by, typ) {
				continue
			}
			for _, v := range more(p.v) {
				count++
				says(t, s, plain(typ, api.One), false, v)
				says(t, s, plain(typ, api.Opt), false, v)
				says(t, s, plain(typ, api.Rep), false, v)
				says(t, s, plain(typ, api.Rep), false, p.v, v)
				says(t, s, mapOf(api.TInt32, typ), false, entry(num(1), v))
				says(t, s, mapOf(api.TInt32, typ), false, entry(v, p.v))
			}
			empty := p.v
			if empty.Kind != api.KBytes {
				empty.B = []byte{}
			}
			if empty.Kind != api.KMsg {
				empty.F = []api.Slot{}
			}
			says(t, s, plain(typ, api.Opt), true, empty)
		}
	}
	if count < 1000 {
		t.Errorf("only %d", count)
	}
}

// P11.1: 0 with a sign is held by nothing, whatever the card is.
func TestZeroWithSign(t *testing.T) {
	for typ := range types {
		s := typed(t, typ, api.TInt32)
		says(t, s, plain(typ, api.One), false, whole("-0"))
		says(t, s, plain(typ, api.Opt), false, whole("-0"))
		says(t, s, plain(typ, api.Rep), false, whole("-0"))
		says(t, s, mapOf(api.TInt32, typ), false, entry(num(1), whole("-0")))
		says(t, s, mapOf(api.TInt32, typ), false, entry(whole("-0"), some(typ)[0]))
	}
}

// some is values that a type holds, no two the same: zero where there is one, and
// others.
func some(typ int) (l []api.Val) {
	for _, p := range probes() {
		if slices.Contains(p.by, typ) {
			l = append(l, p.v)
		}
	}
	return l
}

// P11.1: One has one value that is not zero; Opt has one value; Rep has any number.
func TestCards(t *testing.T) {
	for typ := range types {
		s := typed(t, typ, 0)
		one, opt, rep := plain(typ, api.One), plain(typ, api.Opt), plain(typ, api.Rep)
		all := some(typ)
		for _, v := range all {
			says(t, s, one, !isZero(v), v)
			says(t, s, opt, true, v)
			says(t, s, rep, true, v)
			for _, l := range [][]api.Val{{v, v}, {v, v, v}, {v, all[0]}, {all[0], v}, {v, all[1]}} {
				says(t, s, one, false, l...)
				says(t, s, opt, false, l...)
				says(t, s, rep, true, l...)
			}
			// One value that is not held, anywhere.
			says(t, s, rep, false, v, api.Val{})
			says(t, s, rep, false, api.Val{}, v)
			says(t, s, rep, false, v, v, entry(num(1), v), v)
		}
		says(t, s, rep, true, all...)
		slices.Reverse(all)
		says(t, s, rep, true, all...)
		for _, f := range []api.Field{one, opt, rep} {
			says(t, s, f, true)
			if !value.Denotes(s, f, nil) || !value.Denotes(s, f, []api.Val{}) {
				t.Errorf("%+v: an empty list", f)
			}
			says(t, s, f, false, entry(num(1), all[0]))
			says(t, s, f, false, msg("", slot(1, all[0])))
		}
	}
}
