package dec_test

import (
	"bytes"
	"math/rand"
	"slices"
	"testing"

	"signetry/api"
	"signetry/build"
	"signetry/wire"
)

// wrongSets is sets that are not valid.
func wrongSets(t *testing.T) (l []api.Set) {
	for _, spoil := range []func(s *api.Set){
		func(s *api.Set) { s.Files = nil },
		func(s *api.Set) { s.Files = append(s.Files, s.Files[0]) },
		func(s *api.Set) { s.Msgs[0].Path = "b" },
		func(s *api.Set) { s.Msgs[0].Fields[0].Num = 0 },
		func(s *api.Set) { s.Msgs[0].Fields[0].Type = 10 },
		func(s *api.Set) { s.Msgs[0].Fields[0].Card = 0 },
		func(s *api.Set) { s.Msgs[0].Fields[0].Card = 5 },
		func(s *api.Set) { s.Msgs[0].Fields[1].Card = api.One },
		func(s *api.Set) { s.Msgs[0].Fields[2].Ref = "X" },
		func(s *api.Set) { s.Msgs[0].Fields[3].Key = api.TEnum },
		func(s *api.Set) { s.Msgs[0].Fields[6].Oneof = 7 },
		func(s *api.Set) { s.Msgs[1].Name = "M" },
		func(s *api.Set) { s.Msgs[0], s.Msgs[1] = s.Msgs[1], s.Msgs[0] },
		func(s *api.Set) { s.Enums[0].Values[0].Num = 1 },
		func(s *api.Set) { s.Svcs[0].Name = "a.S" },
	} {
		s := built(t, treeOf)
		spoil(&s)
		if build.Check(s) != api.ErrArg {
			t.Errorf("%+v is valid", s)
		}
		l = append(l, s)
	}
	return l
}

// badBytes is bytes with each of the errors that M of treeOf can have.
func badBytes() map[string]api.Errno {
	return map[string]api.Errno{
		"08": api.ErrTrunc, "0a": api.ErrTrunc, "0a05": api.ErrTrunc, "80": api.ErrTrunc, "2a0180": api.ErrTrunc, "120108": api.ErrTrunc,
		"00": api.ErrForm, "0800 00": api.ErrForm, "8080808010 00": api.ErrForm, "08ffffffffffffffffff02": api.ErrForm, "2a0b8080808080808080808000": api.ErrForm,
		"0b": api.ErrWire, "0c": api.ErrWire, "0e": api.ErrWire, "0f": api.ErrWire, "12010b": api.ErrWire,
		"7a01ff": api.ErrUtf, "4a01ff": api.ErrUtf, "12037a01ff": api.ErrUtf,
		"0a818040": api.ErrLimit,
	}
}

// P13.1: a set that is not valid, ahead of all else.
func TestWrongSets(t *testing.T) {
	for _, s := range wrongSets(t) {
		for _, name := range []string{"M", "N", "", "X", "E"} {
			refuses(t, s, name, nil, api.ErrArg)
			refuses(t, s, name, raw("0801"), api.ErrArg)
			refuses(t, s, name, make([]byte, api.MaxBytes+1), api.ErrArg)
			for text := range badBytes() {
				refuses(t, s, name, raw(text), api.ErrArg)
			}
		}
	}
}

// P13.1: a name of no message, ahead of all that is wrong with the bytes.
func TestNamesOfNoMessage(t *testing.T) {
	s := built(t, treeOf, `b:package p;message M{message N{}}`)
	for _, name := range []string{"", "X", "E", "S", "a", ".M", "M.", "M.M", "m", "M\x00", "p", "p.N", ".p.M", "p.M.", "\xff", string(bytes.Repeat([]byte("M"), 1000))} {
		for _, s := range []api.Set{s, {}} {
			refuses(t, s, name, nil, api.ErrName)
			refuses(t, s, name, raw("0801"), api.ErrName)
			refuses(t, s, name, make([]byte, api.MaxBytes+1), api.ErrName)
			for text := range badBytes() {
				refuses(t, s, name, raw(text), api.ErrName)
			}
		}
	}
	for _, name := range []string{"M", "N", "p.M", "p.M.N"} {
		reads(t, s, name, nil, msg(name))
		refuses(t, api.Set{}, name, nil, api.ErrName)
	}
}

// P13.1: each error, at the top, behind records, and inside of messages and entries.
func TestErrors(t *testing.T) {
	s := built(t, treeOf)
	for text, want := range badBytes() {
		b := raw(text)
		refuses(t, s, "M", b, want)
		refuses(t, s, "M", append(raw("0801 1200 3801"), b...), want)
		for _, around := range [][]byte{
			record(2, b), record(3, b), record(8, b), record(4, record(2, b)),
			record(2, record(2, record(3, raw("0801"), b))),
			record(2, record(4, record(2, record(8, raw("0801"), b)))),
		} {
			refuses(t, s, "M", around, want)
			refuses(t, s, "M", slices.Concat(raw("1202 0801"), around), want)
			refuses(t, s, "M", slices.Concat(around, raw("1202 0801 3801 2200")), want)
		}
		// In bytes that are no message of the set they are none.
		reads(t, s, "M", record(12, b), msg("M", slot(12, api.Val{Kind: api.KBytes, B: b})))
		reads(t, s, "M", record(99, b), msg("M"), record(99, b))
		reads(t, s, "N", record(2, b), msg("N"), record(2, b))
		reads(t, s, "M", record(2, record(99, b)), msg("M", slot(2, msg("M"))))
	}
	// Of an entry itself.
	for text, want := range map[string]api.Errno{"08": api.ErrTrunc, "0b": api.ErrWire, "00": api.ErrForm, "1a05": api.ErrTrunc, "1a818040": api.ErrLimit} {
		refuses(t, s, "M", record(4, raw(text)), want)
		refuses(t, s, "M", record(6, raw(text)), want)
		refuses(t, s, "M", record(6, raw("0801"), raw(text)), want)
	}
}

// Bytes with an effect that is an error: a string, a packed list, a message, an entry.
var effectsThatFail = map[string]api.Errno{
	"7a01ff": api.ErrUtf, "4a01c3": api.ErrUtf, "2a0180": api.ErrTrunc, "2a0bffffffffffffffffff0200": api.ErrForm, "12010b": api.ErrWire, "1a010b": api.ErrWire,
	"42037a01ff": api.ErrUtf, "22010b": api.ErrWire, "220312010b": api.ErrWire, "12040a818040": api.ErrLimit,
}

// Bytes that are no records.
var noRecords = map[string]api.Errno{
	"08": api.ErrTrunc, "0a05": api.ErrTrunc, "00": api.ErrForm, "08ffffffffffffffffff02": api.ErrForm, "0b": api.ErrWire, "9f01": api.ErrWire, "0a818040": api.ErrLimit,
}

// P13.1: the errors of wire for all records come first, ahead of what the records do;
// so it is in each message by itself.
func TestErrorsOfWireFirst(t *testing.T) {
	s := built(t, treeOf)
	for effect, first := range effectsThatFail {
		refuses(t, s, "M", raw(effect), first)
		for end, want := range noRecords {
			b := slices.Concat(raw(effect), raw(end))
			refuses(t, s, "M", b, want)
			refuses(t, s, "M", slices.Concat(raw("0801"), raw(effect), raw("0801"), raw(end)), want)
			for _, num := range []int{2, 3, 8} {
				refuses(t, s, "M", record(num, b), want)
				refuses(t, s, "M", record(num, record(2, b)), want)
				// Outside of a message is ahead of inside of it, and an earlier record
				// ahead of a later one.
				refuses(t, s, "M", slices.Concat(record(num, raw(effect)), raw(end)), want)
				refuses(t, s, "M", record(2, slices.Concat(record(num, raw(effect)), raw(end))), want)
				refuses(t, s, "M", slices.Concat(record(num, raw(effect)), record(2, raw(end))), first)
				refuses(t, s, "M", slices.Concat(record(2, raw(end)), record(num, raw(effect))), want)
			}
			refuses(t, s, "M", slices.Concat(raw(effect), record(4, raw(end))), first)
			refuses(t, s, "M", slices.Concat(record(4, raw(end)), raw(effect)), want)
			refuses(t, s, "M", record(4, record(2, raw(effect)), raw(end)), want)
		}
		for other := range effectsThatFail {
			refuses(t, s, "M", slices.Concat(raw(effect), raw(other)), first)
			refuses(t, s, "M", slices.Concat(record(2, raw(effect)), raw(other)), first)
			refuses(t, s, "M", slices.Concat(record(4, record(2, raw(effect))), record(3, raw(other))), first)
			refuses(t, s, "M", record(2, raw(effect), raw(other)), first)
		}
	}
}

// P13.1: what is replaced or removed later has its errors nevertheless.
func TestErrorsOfWhatIsReplaced(t *testing.T) {
	s := built(t, treeOf)
	for text, want := range map[string]api.Errno{
		"7a01ff 7a0161": api.ErrUtf, "7a01ff 7a00": api.ErrUtf, "820101ff 820100": api.ErrUtf, "4a01ff 3801": api.ErrUtf, "4a01ff 4a0161": api.ErrUtf,
		"42037a01ff 3801": api.ErrUtf, "42010b 3801": api.ErrWire, "2204 0801 0b00 2202 0801": api.ErrWire, "2207 0801 1203 7a01ff 2202 0801": api.ErrUtf,
		"1203 7a01ff 1202 7a00": api.ErrUtf,
	} {
		refuses(t, s, "M", raw(text), want)
	}
}

// P13.1: bytes that are cut off at each place: behind a record what is ahead of it is
// read, otherwise it is an error.
func TestEveryCut(t *testing.T) {
	t.Parallel()
	s := built(t, treeOf)
	full := slices.Concat(
		raw("089601"), record(2, raw("0801"), record(2, raw("7001"))), record(3, raw("0801")), record(3),
		record(4, raw("0805"), record(2, raw("0801"))), raw("2a03ac0201 2803"), record(6, raw("0801 1005")), raw("3801"), record(8, raw("0801")), record(9, []byte("é")),
		raw("5005 5805"), record(12, raw("ff00")), record(13), record(13, raw("01")), raw("7000"), record(15, []byte("a€")), raw("9a0100 9d0101020304 99010102030405060708 f8ffffff0f05"))
	ends := map[int]bool{0: true}
	l, e := wire.Split(full)
	at := 0
	for _, r := range l {
		at += len(r.Raw)
		ends[at] = true
	}
	if e != api.OK || at != len(full) || len(l) != 22 {
		t.Fatalf("%d, %d records", e, len(l))
	}
	for n := range len(full) + 1 {
		if ends[n] {
			likeSecond(t, s, "M", full[:n])
			must(t, s, "M", full[:n])
		} else {
			refuses(t, s, "M", full[:n], api.ErrTrunc)
		}
		// In a message, and in a message of an entry, whose records are whole.
		for _, b := range [][]byte{record(2, full[:n]), record(4, record(2, full[:n])), record(3, record(8, full[:n]))} {
			if ends[n] {
				must(t, s, "M", b)
			} else {
				refuses(t, s, "M", b, api.ErrTrunc)
			}
			likeSecond(t, s, "M", b)
		}
	}
	// The bytes of random values.
	eachRandom(t, 40, 300, func(r *rand.Rand, s api.Set, name string, v api.Val) {
		b := encoded(t, s, name, v, shuffled(r, v))
		if len(b) > 300 {
			return
		}
		for n := range b {
			if e := likeSecond(t, s, name, b[:n]); e != api.OK && e != api.ErrTrunc {
				t.Errorf("%d of % x", e, b[:n])
			}
		}
	})
}

// P13.1: each byte in each place of some bytes.
func TestEveryByte(t *testing.T) {
	t.Parallel()
	s := built(t, treeOf)
	for _, text := range []string{"0801 2a020102 7a0161", "1204 08017001 22040805 12007005", "3801 4202 0801 4a0161", "3204 08011005 6a0161"} {
		b := raw(text)
		for at := range b {
			for c := range 256 {
				other := slices.Clone(b)
				other[at] = byte(c)
				likeSecond(t, s, "M", other)
			}
		}
	}
	// All bytes that are short.
	for a := range 256 {
		likeSecond(t, s, "M", []byte{byte(a)})
		for _, b := range []byte{0, 1, 2, 8, 0x7f, 0x80, 0xff} {
			likeSecond(t, s, "M", []byte{byte(a), b})
			likeSecond(t, s, "M", record(2, []byte{byte(a), b}))
			likeSecond(t, s, "M", record(4, []byte{byte(a), b}))
		}
	}
}
