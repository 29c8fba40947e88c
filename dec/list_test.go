package dec_test

import (
	"slices"
	"testing"

	"signetry/api"
)

// P13.1: packed lists in one record and in several, mixed with single values, and empty.
func TestPackedLists(t *testing.T) {
	s := built(t, `a:message M{repeated int32 a=1;repeated fixed32 b=2;repeated double c=3;repeated bool d=4;repeated sint64 e=5;repeated E f=6;repeated sfixed64 g=7;}enum E{Z=0;}`)
	for text, want := range map[string]api.Val{
		"0a00":                                  msg("M"),
		"0a00 0a00":                             msg("M"),
		"0a00 0801":                             msg("M", slot(1, num(1))),
		"0801 0a00":                             msg("M", slot(1, num(1))),
		"0a0101":                                msg("M", slot(1, num(1))),
		"0800":                                  msg("M", slot(1, num(0))),
		"0a0100":                                msg("M", slot(1, num(0))),
		"0800 0800":                             msg("M", slot(1, num(0), num(0))),
		"0a020102 0803":                         msg("M", slot(1, num(1), num(2), num(3))),
		"0803 0a020102":                         msg("M", slot(1, num(3), num(1), num(2))),
		"0a020102 0a00 0a0103 0804":             msg("M", slot(1, num(1), num(2), num(3), num(4))),
		"0801 0802 0803":                        msg("M", slot(1, num(1), num(2), num(3))),
		"0a03ac0201":                            msg("M", slot(1, num(300), num(1))),
		"0a0bffffffffffffffffff0105":            msg("M", slot(1, num(-1), num(5))),
		"0801 1000 0802":                        msg("M", slot(1, num(1), num(2))),
		"0801 1501000000 0802":                  msg("M", slot(1, num(1), num(2)), slot(2, num(1))),
		"1500000080":                            msg("M", slot(2, num(1<<31))),
		"1208 0100000002000000":                 msg("M", slot(2, num(1), num(2))),
		"1200":                                  msg("M"),
		"1204 ffffffff 1501000000 120402000000": msg("M", slot(2, num(1<<32-1), num(1), num(2))),
		"1a08 000000000000f03f":                 msg("M", slot(3, f64(0x3ff0000000000000))),
		"19 000000000000f03f 1a08 0000000000000080": msg("M", slot(3, f64(0x3ff0000000000000), f64(1<<63))),
		"2203 000102":                            msg("M", slot(4, num(0), num(1), num(0))),
		"2203 818002":                            msg("M", slot(4, num(1))),
		"2a03 000102":                            msg("M", slot(5, num(0), num(-1), num(1))),
		"3203 007f05":                            msg("M", slot(6, num(0), num(127), num(5))),
		"3a10 ffffffffffffffff 0100000000000000": msg("M", slot(7, num(-1), num(1))),
	} {
		var unknown [][]byte
		if text == "0801 1000 0802" {
			unknown = append(unknown, raw("1000"))
		}
		reads(t, s, "M", raw(text), want, unknown...)
	}
}

// P13.1: repeated strings, bytes and messages have a record each; of these an empty one
// is a value.
func TestListsThatAreNotPacked(t *testing.T) {
	s := built(t, `a:message M{repeated string a=1;repeated bytes b=2;repeated M c=3;}`)
	reads(t, s, "M", raw("0a00"), msg("M", slot(1, str(""))))
	reads(t, s, "M", raw("0a00 0a0161 0a00"), msg("M", slot(1, str(""), str("a"), str(""))))
	reads(t, s, "M", raw("1200 0a0161 1201ff"), msg("M", slot(1, str("a")), slot(2, str(""), str("\xff"))))
	reads(t, s, "M", raw("1a00"), msg("M", slot(3, msg("M"))))
	// They are never put together, unlike those of a field that has one.
	reads(t, s, "M", raw("1a020a00 1a020a00 1a00"), msg("M", slot(3, msg("M", slot(1, str(""))), msg("M", slot(1, str(""))), msg("M"))))
	for _, text := range []string{"0801", "0d01000000", "090100000000000000", "1001", "1801", "1d01000000"} {
		reads(t, s, "M", append(raw(text), raw("0a00")...), msg("M", slot(1, str(""))), raw(text))
	}
}

// P13.1: a packed list is cut off inside of a value, of each type, wherever that is.
func TestPackedListsCutOff(t *testing.T) {
	for typ, l := range samples() {
		if !packs(typ) {
			continue
		}
		s := typed(t, typ, 0)
		for _, x := range l {
			for _, y := range l {
				all := slices.Concat(raw(x.said), raw(y.said))
				for n := range len(all) + 1 {
					want := msg("M3")
					switch n {
					case 0:
					case len(raw(x.said)):
						want.F = []api.Slot{slot(1, x.v)}
					case len(all):
						want.F = []api.Slot{slot(1, x.v, y.v)}
					default:
						b := record(1, all[:n])
						refuses(t, s, "M3", b, api.ErrTrunc)
						refuses(t, s, "M3", append(recordOf(1, typ, x), b...), api.ErrTrunc)
						refuses(t, s, "M3", append(b, recordOf(1, typ, x)...), api.ErrTrunc)
						continue
					}
					reads(t, s, "M3", record(1, all[:n]), want)
				}
			}
		}
	}
}

// P13.1: of the errors in one packed list, that it is cut off comes first.
func TestErrorsInPackedLists(t *testing.T) {
	s := built(t, `a:message M{repeated int32 a=1;repeated bool b=2;M m=3;repeated fixed32 f=4;repeated double d=5;}`)
	tooLong := raw("8080808080808080808001")
	tooMuch := raw("ffffffffffffffffff02")
	for _, bad := range [][]byte{tooLong, tooMuch, append(raw("80808080808080808080808080"), 0)} {
		for n := 1; n <= 2; n++ {
			for _, b := range [][]byte{record(n, bad), record(n, raw("01"), bad), record(n, bad, raw("01")), record(n, bad, bad), record(n, raw("ac02"), bad, raw("ac02"))} {
				refuses(t, s, "M", b, api.ErrForm)
				refuses(t, s, "M", record(3, b), api.ErrForm)
				refuses(t, s, "M", append(raw("0801"), b...), api.ErrForm)
			}
			for _, b := range [][]byte{record(n, bad, raw("80")), record(n, raw("01"), bad, raw("ff")), record(n, bad, raw("01"), raw("8080")), record(n, bad[:len(bad)-1], raw("80")), record(n, raw("80808080808080808080808080"))} {
				refuses(t, s, "M", b, api.ErrTrunc)
				refuses(t, s, "M", record(3, b), api.ErrTrunc)
			}
			// Record by record: the earlier one has its error first.
			refuses(t, s, "M", slices.Concat(record(n, bad), record(n, raw("80"))), api.ErrForm)
			refuses(t, s, "M", slices.Concat(record(n, raw("80")), record(n, bad)), api.ErrTrunc)
		}
	}
	for size := range 13 {
		b := make([]byte, size)
		if size%4 > 0 {
			refuses(t, s, "M", record(4, b), api.ErrTrunc)
		} else {
			reads(t, s, "M", record(4, b), withList(4, size/4, num(0)))
		}
		if size%8 > 0 {
			refuses(t, s, "M", record(5, b), api.ErrTrunc)
		} else {
			reads(t, s, "M", record(5, b), withList(5, size/8, f64(0)))
		}
	}
}

// withList is an M with so many of a value in a slot, without it if there are none.
func withList(num, count int, v api.Val) api.Val {
	if count == 0 {
		return msg("M")
	}
	return msg("M", slot(num, times(count, v)...))
}
