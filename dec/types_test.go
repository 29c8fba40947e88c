package dec_test

import (
	"bytes"
	"fmt"
	"testing"

	"signetry/api"
	"signetry/wire"
)

// readsAs checks what a record of the field 1 is read as, in each card but Map.
func readsAs(t *testing.T, s api.Set, typ int, b []byte, want api.Val) {
	t.Helper()
	if typ != api.TMsg {
		if isZero(want) {
			reads(t, s, "M1", b, msg("M1"))
		} else {
			reads(t, s, "M1", b, msg("M1", slot(1, want)))
		}
	}
	for _, name := range []string{"M2", "M3", "O"} {
		reads(t, s, name, b, msg(name, slot(1, want)))
	}
}

// P13.1: values of each type, alone, in each card.
func TestTypes(t *testing.T) {
	all := samples()
	if len(all) != len(types) {
		t.Fatal(len(all))
	}
	for typ, l := range all {
		s := typed(t, typ, api.TInt32)
		for _, x := range l {
			readsAs(t, s, typ, recordOf(1, typ, x), x.v)
			inMap := append(raw("0807"), recordOf(2, typ, x)...)
			reads(t, s, "M4", record(1, inMap), msg("M4", slot(1, entry(num(7), x.v))))
			if packs(typ) {
				reads(t, s, "M3", record(1, raw(x.said)), msg("M3", slot(1, x.v)))
			}
		}
	}
}

// P13.1: keys of each type.
func TestKeys(t *testing.T) {
	for _, typ := range keyTypes {
		s := typed(t, api.TBool, typ)
		for _, x := range samples()[typ] {
			b := record(1, recordOf(1, typ, x), raw("1001"))
			reads(t, s, "M4", b, msg("M4", slot(1, entry(x.v, num(1)))))
		}
	}
}

// records1 is a record of each wire type with the number 1.
var records1 = map[int]string{0: "0801", 1: "090100000000000000", 2: "0a0101", 5: "0d01000000"}

// wireOf is the wire type of each type.
var wireOf = map[int]int{
	api.TInt32: 0, api.TInt64: 0, api.TUint32: 0, api.TUint64: 0, api.TBool: 0, api.TEnum: 0, api.TSint32: 0, api.TSint64: 0,
	api.TFixed64: 1, api.TSfixed64: 1, api.TDouble: 1, api.TString: 2, api.TBytes: 2, api.TMsg: 2,
	api.TFixed32: 5, api.TSfixed32: 5, api.TFloat: 5,
}

// P13.1: each type with each wire type: what does not fit is unknown, as it is.
func TestWireTypes(t *testing.T) {
	for typ := range types {
		s := typed(t, typ, api.TString)
		for kind, text := range records1 {
			b := raw(text)
			for card := api.One; card <= api.Map; card++ {
				name := fmt.Sprint("M", card)
				if typ == api.TMsg && card == api.One {
					continue
				}
				if card == api.Map && kind == 2 || kind == 2 && card == api.Rep && packs(typ) || card < api.Map && kind == wireOf[typ] {
					continue
				}
				reads(t, s, name, b, msg(name), b)
				reads(t, s, name, append(b, b...), msg(name), b, b)
			}
			if kind != wireOf[typ] {
				// What is unknown takes nothing away.
				reads(t, s, "O", append(raw("1200"), b...), msg("O", slot(2, msg("N"))), b)
				reads(t, s, "O", append(b, raw("1200")...), msg("O", slot(2, msg("N"))), b)
				// In an entry it is as if it were not there.
				for n := byte(1); n <= 2; n++ {
					inMap := append(raw("0a016b"), b...)
					inMap[3] |= 16
					reads(t, s, "M4", record(1, inMap), msg("M4", slot(1, entry(str("k"), none(plain(typ, api.Opt))))))
				}
			}
		}
	}
	// A key of another wire type.
	for _, typ := range keyTypes {
		s := typed(t, api.TBool, typ)
		for kind, text := range records1 {
			if kind != wireOf[typ] {
				reads(t, s, "M4", record(1, raw(text), raw("1001")), msg("M4", slot(1, entry(none(plain(typ, api.Opt)), num(1)))))
			}
		}
	}
}

// beyond is varints, and what they are in each type: the bits that the type does not
// have do not count.
var beyond = []struct{ n, int32, uint32, bool, sint32, int64, uint64, sint64 string }{
	{"02", "2", "2", "0", "1", "2", "2", "1"},
	{"03", "3", "3", "1", "-2", "3", "3", "-2"},
	{"fe01", "254", "254", "0", "127", "254", "254", "127"},
	{"8080808008", "-2147483648", "2147483648", "0", "1073741824", "2147483648", "2147483648", "1073741824"},
	{"feffffff0f", "-2", "4294967294", "0", "2147483647", "4294967294", "4294967294", "2147483647"},
	{"ffffffff0f", "-1", "4294967295", "1", "-2147483648", "4294967295", "4294967295", "-2147483648"},
	{"8080808010", "0", "0", "0", "0", "4294967296", "4294967296", "2147483648"},
	{"8180808010", "1", "1", "1", "-1", "4294967297", "4294967297", "-2147483649"},
	{"8580808010", "5", "5", "1", "-3", "4294967301", "4294967301", "-2147483651"},
	{"ffffffff1f", "-1", "4294967295", "1", "-2147483648", "8589934591", "8589934591", "-4294967296"},
	{"8080808018", "-2147483648", "2147483648", "0", "1073741824", "6442450944", "6442450944", "3221225472"},
	{"feffffff1f", "-2", "4294967294", "0", "2147483647", "8589934590", "8589934590", "4294967295"},
	{"ffffffffffffffff7f", "-1", "4294967295", "1", "-2147483648", "9223372036854775807", "9223372036854775807", "-4611686018427387904"},
	{"80808080808080808001", "0", "0", "0", "0", "-9223372036854775808", "9223372036854775808", "4611686018427387904"},
	{"81808080808080808001", "1", "1", "1", "-1", "-9223372036854775807", "9223372036854775809", "-4611686018427387905"},
	{"feffffffffffffffff01", "-2", "4294967294", "0", "2147483647", "-2", "18446744073709551614", "9223372036854775807"},
	{"ffffffffffffffffff01", "-1", "4294967295", "1", "-2147483648", "-1", "18446744073709551615", "-9223372036854775808"},
	{"80808080f8ffffffff01", "-2147483648", "2147483648", "0", "1073741824", "-2147483648", "18446744071562067968", "9223372035781033984"},
	{"fffffffff7ffffffff01", "2147483647", "2147483647", "1", "-1073741824", "-2147483649", "18446744071562067967", "-9223372035781033984"},
}

// P13.1: varints with bits beyond those of the type: in each card, packed, as a key and
// as a value of a map.
func TestBitsBeyond(t *testing.T) {
	for _, x := range beyond {
		for typ, want := range map[int]string{
			api.TInt32: x.int32, api.TEnum: x.int32, api.TUint32: x.uint32, api.TBool: x.bool, api.TSint32: x.sint32,
			api.TInt64: x.int64, api.TUint64: x.uint64, api.TSint64: x.sint64,
		} {
			s, v := typed(t, typ, api.TString), whole(want)
			readsAs(t, s, typ, raw("08", x.n), v)
			reads(t, s, "M3", record(1, raw(x.n)), msg("M3", slot(1, v)))
			reads(t, s, "M4", record(1, raw("10", x.n)), msg("M4", slot(1, entry(str(""), v))))
			if typ != api.TEnum {
				s = typed(t, api.TString, typ)
				reads(t, s, "M4", record(1, raw("08", x.n)), msg("M4", slot(1, entry(v, str("")))))
			}
		}
	}
}

// longer is a varint with as many bytes as that.
func longer(size int, n uint64) []byte {
	b := wire.Var(nil, n)
	if size > len(b) {
		b[len(b)-1] |= 0x80
		b = append(b, bytes.Repeat([]byte{0x80}, size-len(b))...)
		b[size-1] = 0
	}
	return b
}

// P13.1: varints in more bytes than they need: values, numbers of records, and how many
// bytes there are.
func TestLongVarints(t *testing.T) {
	t.Parallel()
	s := built(t, `a:message M{uint32 a=1;sint64 b=2;repeated bool c=3;string d=4;M m=5;map<int32,int32>k=6;}`)
	for size := 1; size <= 12; size++ {
		long := func(n uint64) []byte { return longer(size, n) }
		for _, x := range []struct {
			b    [][]byte
			want api.Val
		}{
			{[][]byte{raw("08"), long(5)}, msg("M", slot(1, num(5)))},
			{[][]byte{raw("08"), long(0)}, msg("M")},
			{[][]byte{long(8), raw("05")}, msg("M", slot(1, num(5)))},
			{[][]byte{long(8), long(127)}, msg("M", slot(1, num(127)))},
			{[][]byte{raw("10"), long(5)}, msg("M", slot(2, num(-3)))},
			{[][]byte{raw("18"), long(1)}, msg("M", slot(3, num(1)))},
			{[][]byte{long(0x1a), long(2), raw("0100")}, msg("M", slot(3, num(1), num(0)))},
			{[][]byte{record(3, long(1), long(0), long(3))}, msg("M", slot(3, num(1), num(0), num(1)))},
			{[][]byte{long(0x22), long(1), raw("61")}, msg("M", slot(4, str("a")))},
			{[][]byte{raw("22"), long(0)}, msg("M")},
			{[][]byte{raw("2a"), long(2), raw("0805")}, msg("M", slot(5, msg("M", slot(1, num(5)))))},
			{[][]byte{record(5, long(8), long(5))}, msg("M", slot(5, msg("M", slot(1, num(5)))))},
			{[][]byte{record(6, long(8), long(5), long(16), long(6))}, msg("M", slot(6, entry(num(5), num(6))))},
		} {
			if b := bytes.Join(x.b, nil); size > 10 {
				refuses(t, s, "M", b, api.ErrForm)
			} else {
				reads(t, s, "M", b, x.want)
			}
		}
		if size <= 10 {
			unknown := append(long(7<<3), long(5)...)
			reads(t, s, "M", unknown, msg("M"), unknown)
			unknown = append(append(long(1<<3|2), long(1)...), 0)
			reads(t, s, "M", unknown, msg("M"), unknown)
		}
	}
	// The tenth byte is at most 1.
	for last, want := range map[byte]api.Errno{0: api.OK, 1: api.OK, 2: api.ErrForm, 3: api.ErrForm, 0x7f: api.ErrForm} {
		b := append(bytes.Repeat([]byte{0xff}, 9), last)
		for _, all := range [][]byte{append(raw("08"), b...), append(raw("18"), b...), record(3, b), record(3, raw("01"), b, raw("00")), record(5, raw("08"), b)} {
			if _, _, e := secondMess(s, "M", string(all)); e != want {
				t.Errorf("%d, want %d", e, want)
			}
			likeSecond(t, s, "M", all)
		}
	}
}

// P13.1: strings must be UTF-8, wherever they are; bytes need not be.
func TestText(t *testing.T) {
	s := built(t, `a:message M{string a=1;optional string b=2;repeated string c=3;oneof o{string d=4;}map<string,int32>e=5;map<int32,string>f=6;M m=7;repeated bytes g=8;}`)
	for _, text := range []string{"", "a", "é", "€", "\U0001F600", "\x00", "a\x7fb", "\u00e4\u00f6", "\U0010ffff", "\ud7ff\ue000"} {
		v := str(text)
		if text != "" {
			reads(t, s, "M", record(1, v.B), msg("M", slot(1, v)))
		}
		for n := 2; n <= 4; n++ {
			reads(t, s, "M", record(n, v.B), msg("M", slot(n, v)))
		}
		reads(t, s, "M", record(5, record(1, v.B)), msg("M", slot(5, entry(v, num(0)))))
		reads(t, s, "M", record(6, record(2, v.B)), msg("M", slot(6, entry(num(0), v))))
		reads(t, s, "M", record(7, record(2, v.B)), msg("M", slot(7, msg("M", slot(2, v)))))
		reads(t, s, "M", record(8, v.B), msg("M", slot(8, v)))
	}
	for _, text := range []string{"\xff", "\x80", "\xc3", "\xc0\x80", "\xc1\xbf", "\xe0\x80\x80", "\xed\xa0\x80", "\xed\xbf\xbf", "\xf4\x90\x80\x80", "\xf5\x80\x80\x80", "\xe2\x82", "a\xffb", "ab\xc3", "\xc3a", "é\xa4"} {
		b := []byte(text)
		for n := 1; n <= 4; n++ {
			refuses(t, s, "M", record(n, b), api.ErrUtf)
			refuses(t, s, "M", append(record(n, b), record(n, []byte("a"))...), api.ErrUtf)
			refuses(t, s, "M", append(record(n, []byte("a")), record(n, b)...), api.ErrUtf)
		}
		refuses(t, s, "M", record(5, record(1, b)), api.ErrUtf)
		refuses(t, s, "M", record(5, record(1, b), record(1, []byte("a"))), api.ErrUtf)
		refuses(t, s, "M", record(6, record(2, b)), api.ErrUtf)
		refuses(t, s, "M", record(6, record(2, b), record(2, []byte("a"))), api.ErrUtf)
		refuses(t, s, "M", record(7, record(2, b)), api.ErrUtf)
		reads(t, s, "M", record(8, b), msg("M", slot(8, api.Val{Kind: api.KBytes, B: b})))
		// Unknown records, also in a message and in an entry, have any bytes.
		reads(t, s, "M", record(9, b), msg("M"), record(9, b))
		reads(t, s, "M", record(7, record(9, b)), msg("M", slot(7, msg("M"))))
		reads(t, s, "M", record(5, record(3, b)), msg("M", slot(5, entry(str(""), num(0)))))
		reads(t, s, "M", record(5, record(2, b)), msg("M", slot(5, entry(str(""), num(0)))))
		// Halves of a rune that stand in two records are not put together.
		refuses(t, s, "M", append(record(3, b[:1]), record(3, b[1:])...), secondError(s, append(record(3, b[:1]), record(3, b[1:])...)))
	}
	refuses(t, s, "M", append(record(3, []byte("\xc3")), record(3, []byte("\xa4"))...), api.ErrUtf)
}

// secondError is the error of bytes of M by the second way.
func secondError(s api.Set, b []byte) api.Errno {
	_, _, e := secondMess(s, "M", string(b))
	return e
}
