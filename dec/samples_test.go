package dec_test

import (
	"slices"

	"signetry/api"
)

// sample is a value, and what a record says of it.
type sample struct {
	v    api.Val
	said string
}

// wholes is samples of integers.
func wholes(pairs ...string) (l []sample) {
	for i := 0; i < len(pairs); i += 2 {
		l = append(l, sample{whole(pairs[i]), pairs[i+1]})
	}
	return l
}

// Samples that several types share.
var (
	varints = wholes("0", "00", "1", "01", "2", "02", "63", "3f", "64", "40", "127", "7f", "128", "8001", "150", "9601", "255", "ff01", "256", "8002", "300", "ac02", "16383", "ff7f", "16384", "808001", "2147483647", "ffffffff07")
	minuses = wholes("-1", "ffffffffffffffffff01", "-2", "feffffffffffffffff01", "-64", "c0ffffffffffffffff01", "-128", "80ffffffffffffffff01", "-2147483647", "81808080f8ffffffff01", "-2147483648", "80808080f8ffffffff01")
	zigzags = wholes("0", "00", "-1", "01", "1", "02", "-2", "03", "2", "04", "63", "7e", "-64", "7f", "64", "8001", "-65", "8101", "150", "ac02", "-150", "ab02", "2147483647", "feffffff0f", "-2147483647", "fdffffff0f", "-2147483648", "ffffffff0f")
	fours   = wholes("0", "00000000", "1", "01000000", "255", "ff000000", "256", "00010000", "258", "02010000", "16909060", "04030201", "2147483647", "ffffff7f")
	eights  = wholes("0", "0000000000000000", "1", "0100000000000000", "258", "0201000000000000", "4294967295", "ffffffff00000000", "4294967296", "0000000001000000", "72623859790382856", "0807060504030201", "9223372036854775807", "ffffffffffffff7f")
)

// samples is values of each type, zero first, with both ends of what it holds. What is
// said of integers is written in bytes here, not worked out.
func samples() map[int][]sample {
	with := func(l []sample, pairs ...string) []sample { return append(slices.Clip(l), wholes(pairs...)...) }
	signed := append(slices.Clip(varints), minuses...)
	return map[int][]sample{
		api.TBool:     wholes("0", "00", "1", "01"),
		api.TInt32:    signed,
		api.TEnum:     signed,
		api.TUint32:   with(varints, "2147483648", "8080808008", "4294967295", "ffffffff0f"),
		api.TInt64:    with(signed, "4294967295", "ffffffff0f", "4294967296", "8080808010", "-2147483649", "fffffffff7ffffffff01", "9223372036854775807", "ffffffffffffffff7f", "-9223372036854775807", "81808080808080808001", "-9223372036854775808", "80808080808080808001"),
		api.TUint64:   with(varints, "9223372036854775807", "ffffffffffffffff7f", "9223372036854775808", "80808080808080808001", "18446744073709551615", "ffffffffffffffffff01"),
		api.TSint32:   zigzags,
		api.TSint64:   with(zigzags, "2147483648", "8080808010", "-2147483649", "8180808010", "9223372036854775807", "feffffffffffffffff01", "-9223372036854775807", "fdffffffffffffffff01", "-9223372036854775808", "ffffffffffffffffff01"),
		api.TFixed32:  with(fours, "2147483648", "00000080", "4294967295", "ffffffff"),
		api.TSfixed32: with(fours, "-1", "ffffffff", "-2", "feffffff", "-256", "00ffffff", "-2147483647", "01000080", "-2147483648", "00000080"),
		api.TFixed64:  with(eights, "9223372036854775808", "0000000000000080", "18446744073709551615", "ffffffffffffffff"),
		api.TSfixed64: with(eights, "-1", "ffffffffffffffff", "-2", "feffffffffffffff", "-4294967296", "00000000ffffffff", "-9223372036854775807", "0100000000000080", "-9223372036854775808", "0000000000000080"),
		api.TFloat: {
			{f32(0), "00000000"}, {f32(1), "01000000"}, {f32(0x3f800000), "0000803f"}, {f32(0x04030201), "01020304"},
			{f32(1 << 31), "00000080"}, {f32(0x7fc00001), "0100c07f"}, {f32(1<<32 - 1), "ffffffff"},
		},
		api.TDouble: {
			{f64(0), "0000000000000000"}, {f64(1), "0100000000000000"}, {f64(0x3ff0000000000000), "000000000000f03f"}, {f64(0x0807060504030201), "0102030405060708"},
			{f64(1 << 63), "0000000000000080"}, {f64(0x7ff8000000000001), "010000000000f87f"}, {f64(1<<64 - 1), "ffffffffffffffff"},
		},
		api.TString: {
			{str(""), ""}, {str("a"), "61"}, {str("\x00"), "00"}, {str("é"), "c3a9"}, {str("€"), "e282ac"}, {str("\U0001F600"), "f09f9880"}, {str("a\nb"), "610a62"},
		},
		api.TBytes: {
			{str(""), ""}, {str("a"), "61"}, {str("\x00"), "00"}, {str("\xff"), "ff"}, {str("\xc3"), "c3"}, {str("\x08\x96\x01"), "089601"},
		},
		api.TMsg: {
			{msg("N"), ""}, {msg("N", slot(1, num(1))), "0801"}, {msg("N", slot(2, msg("N"))), "1200"},
			{msg("N", slot(1, num(150)), slot(2, msg("N", slot(1, num(-1))))), "089601 120b 08ffffffffffffffffff01"},
		},
	}
}

// startOf is the number and the wire type of a record of the field 1, or 2, with a
// type; how many bytes it says follow if it is a record of bytes.
func startOf(n, typ int, said []byte) []byte {
	b := []byte{byte(n << 3)}
	switch typ {
	case api.TDouble, api.TFixed64, api.TSfixed64:
		b[0] |= 1
	case api.TFloat, api.TFixed32, api.TSfixed32:
		b[0] |= 5
	case api.TString, api.TBytes, api.TMsg:
		b = append(b, byte(len(said)))
		b[0] |= 2
	}
	return b
}

// recordOf is the record of a field 1, or 2, with a sample.
func recordOf(n, typ int, x sample) []byte {
	said := raw(x.said)
	return append(startOf(n, typ, said), said...)
}

// isZero tells whether a value is a zero value.
func isZero(v api.Val) bool {
	return slices.Contains([]string{"int 0", "f32 0", "f64 0", `bytes ""`}, told(v))
}

// packs tells whether a type is packed.
func packs(typ int) bool {
	return typ != api.TString && typ != api.TBytes && typ != api.TMsg
}
