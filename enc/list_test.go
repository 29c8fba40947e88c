package enc_test

import (
	"bytes"
	"encoding/binary"
	"fmt"
	"math/rand"
	"slices"
	"strings"
	"testing"

	"signetry/api"
)

// counted is bytes behind their number.
func counted(said []byte) []byte {
	return append(binary.AppendUvarint(nil, uint64(len(said))), said...)
}

// P12.2: lists of many values: of types that are packed one record, of other types a
// record each, in the order of the list, also if values are there twice.
func TestLists(t *testing.T) {
	r := rand.New(rand.NewSource(1))
	for typ, all := range samples() {
		s, f := typed(t, typ, 0), plain(typ, api.Rep)
		l := slices.Clone(all)
		for range 50 {
			r.Shuffle(len(l), func(i, j int) { l[i], l[j] = l[j], l[i] })
			l = append(l[:2+r.Intn(len(l)-1)], pick(r, all), pick(r, all))
			var values []api.Val
			var packed, single []byte
			for _, x := range l {
				values = append(values, x.v)
				packed = append(packed, raw(x.said)...)
				single = append(single, recordOf(1, typ, x)...)
			}
			want := single
			if packs(typ) {
				want = append([]byte{0x0a}, counted(packed)...)
			}
			says(t, s, f, want, values...)
		}
	}
}

// P12.2: an empty list has no value, and so nothing is said of any. What is packed is
// one record all the same.
func TestEmptyLists(t *testing.T) {
	for typ := range types {
		s := typed(t, typ, api.TInt32)
		for _, f := range []api.Field{plain(typ, api.One), plain(typ, api.Opt), mapOf(api.TInt32, typ)} {
			lists(t, s, f, nil)
			lists(t, s, f, nil, []api.Val{}...)
		}
		var want []byte
		if packs(typ) {
			want = raw("0a00")
		}
		lists(t, s, plain(typ, api.Rep), want)
		lists(t, s, plain(typ, api.Rep), want, []api.Val{}...)
		// Values have no slots that are empty.
		for card := api.Opt; card <= api.Map; card++ {
			refuses(t, s, fmt.Sprint("M", card), msg(fmt.Sprint("M", card), slot(1)), nil, api.ErrType)
		}
	}
	s := typed(t, api.TInt32, 0)
	for _, f := range []api.Field{{}, {Num: -5}, {Card: 9, Type: 99}, {Card: api.Map, Key: -1}, {Card: api.Rep, Type: 10}, {Card: api.Rep, Type: -1, Num: 1}, {Card: api.Opt, Type: 5}} {
		lists(t, s, f, nil)
		lists(t, api.Set{}, f, nil)
	}
	// There is no record with this number, and so not this one either.
	denies(t, s, api.Field{Card: api.Rep, Type: api.TInt32}, api.ErrType)
	denies(t, s, api.Field{Card: api.Rep, Type: api.TDouble, Num: 1 << 29}, api.ErrType)
}

// P12.1, P12.2: how many bytes there are, where the number of that gets longer.
func TestLengths(t *testing.T) {
	s := built(t, `a:message M{bytes b=1;repeated bool p=2;repeated double d=3;M m=4;repeated string s=5;map<string,bytes>k=6;}`)
	for _, n := range []int{0, 1, 2, 126, 127, 128, 129, 16382, 16383, 16384, 16385, 100000} {
		x := strings.Repeat("x", n)
		if n > 0 {
			writes(t, s, "M", msg("M", slot(1, str(x))), nil, append([]byte{0x0a}, counted([]byte(x))...))
			lists(t, s, fieldOf(t, s, "M", 2), append([]byte{0x12}, counted(bytes.Repeat([]byte{1}, n))...), times(n, num(1))...)
			lists(t, s, fieldOf(t, s, "M", 3), append([]byte{0x1a}, counted(bytes.Repeat(raw("0807060504030201"), n))...), times(n, f64(0x0102030405060708))...)
		}
		if n > 0 && n < api.MaxNodes {
			writes(t, s, "M", msg("M", slot(2, times(n, num(1))...)), nil, append([]byte{0x12}, counted(bytes.Repeat([]byte{1}, n))...))
			writes(t, s, "M", msg("M", slot(3, times(n, f64(1))...)), nil, append([]byte{0x1a}, counted(bytes.Repeat(raw("0100000000000000"), n))...))
		}
		one := append([]byte{0x2a}, counted([]byte(x))...)
		writes(t, s, "M", msg("M", slot(5, str(x))), nil, one)
		writes(t, s, "M", msg("M", slot(5, times(5, str(x))...)), nil, bytes.Repeat(one, 5))
		// In a message, and in an entry, as a key and as a value.
		writes(t, s, "M", msg("M", slot(4, msg("M", slot(5, str(x))))), nil, append([]byte{0x22}, counted(one)...))
		inner := append(append([]byte{0x0a}, counted([]byte(x))...), append([]byte{0x12}, counted([]byte(x+x))...)...)
		writes(t, s, "M", msg("M", slot(6, entry(str(x), str(x+x)))), nil, append([]byte{0x32}, counted(inner)...))
	}
	// A message whose own length gets longer by what is in it.
	for n := range 300 {
		if n == 0 {
			continue
		}
		v := msg("M", slot(1, str(strings.Repeat("x", n))))
		want := append([]byte{0x0a}, counted([]byte(strings.Repeat("x", n)))...)
		for range 5 {
			v, want = msg("M", slot(4, v)), append([]byte{0x22}, counted(want)...)
			writes(t, s, "M", v, nil, want)
		}
	}
}

// P12.1: messages in messages, as deep as a value may be, in each card.
func TestNests(t *testing.T) {
	s := built(t, `a:message M{int32 a=1;M m=2;repeated M l=3;map<bool,M>k=4;oneof o{M x=5;}}`)
	for deep := 1; deep <= 30; deep++ {
		for n, tag := range map[int]byte{2: 0x12, 3: 0x1a, 5: 0x2a} {
			var want []byte
			for range deep - 1 {
				want = append([]byte{tag}, counted(want)...)
			}
			writes(t, s, "M", nest(deep, "M", n), nil, want)
		}
	}
	a := func(n int) api.Val { return msg("M", slot(1, num(n))) }
	writes(t, s, "M", msg("M", slot(3, a(1), msg("M"), a(2), a(1))), nil, raw("1a020801 1a00 1a020802 1a020801"))
	writes(t, s, "M", msg("M", slot(4, entry(num(0), a(1)), entry(num(1), msg("M")))), nil, raw("2206 0800 12020801 2204 0801 1200"))
	writes(t, s, "M", msg("M", slot(2, msg("M", slot(3, a(1), a(2)), slot(5, a(3)))), slot(4, entry(num(1), msg("M", slot(2, a(4)))))), nil,
		raw("120c 1a020801 1a020802 2a020803 2208 0801 1204 12020804"))
}
