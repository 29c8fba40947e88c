package descpb_test

import (
	"bytes"
	"encoding/binary"
	"fmt"
	"runtime"
	"slices"
	"strings"
	"testing"

	"signetry/api"
	"signetry/build"
	"signetry/descpb"
)

// mapsOf is messages that are full of maps, in some files with the same number of
// messages each.
func mapsOf(files, messages int) (s api.Set) {
	for i := range files {
		path := fmt.Sprintf("f%02d", i)
		s.Files = append(s.Files, api.File{Path: path})
		for k := range messages {
			m := api.Msg{Path: path, Name: fmt.Sprintf("M%02d%s%03d", i, strings.Repeat("x", 26), k)}
			for n := range 64 {
				m.Fields = append(m.Fields, api.Field{Name: fmt.Sprintf("f%s%02d", strings.Repeat("y", 29), n), Json: fmt.Sprintf("%02d", n), Num: 1000000 + n, Type: api.TMsg, Card: api.Map, Key: api.TString, Ref: m.Name, Oneof: -1})
			}
			s.Msgs = append(s.Msgs, m)
		}
	}
	return s
}

// padded is a set whose bytes are so many: one of mapsOf with longer keys. No field
// has 128 bytes with any of these keys, and so each byte of a key is just one more.
func padded(t *testing.T, s api.Set, size int) (api.Set, []byte) {
	t.Helper()
	s = build.Copy(s)
	more := size - len(written(secondText(s)))
	for i := range s.Msgs {
		for k := range s.Msgs[i].Fields {
			key := &s.Msgs[i].Fields[k].Json
			added := max(0, min(32-len(*key), more))
			*key += strings.Repeat("k", added)
			more -= added
		}
	}
	b := written(secondText(s))
	if len(b) != size || build.Check(s) != api.OK {
		t.Fatalf("%d bytes, want %d", len(b), size)
	}
	return s, b
}

// tooLong checks that a set has too many bytes, and that these are not decoded.
func tooLong(t *testing.T, s api.Set) {
	t.Helper()
	if b, e := descpb.Encode(s); e != api.ErrLimit || len(b) > 0 {
		t.Errorf("%d, %d bytes", e, len(b))
	}
	b := written(secondText(s))
	if s, e := descpb.Decode(b); e != api.ErrLimit || !deepEqual(s, api.Set{}) {
		t.Errorf("%d of %d bytes, %d messages", e, len(b), len(s.Msgs))
	}
}

// P10.1, P10.2: sets with 2^20 bytes and with one more, in one file and in several.
func TestMostBytes(t *testing.T) {
	t.Parallel()
	for _, s := range []api.Set{mapsOf(1, 84), mapsOf(14, 6)} {
		if build.Check(s) != api.OK {
			t.Fatal("not valid")
		}
		most, b := padded(t, s, api.MaxBytes)
		is(t, most, b)
		less, b := padded(t, s, api.MaxBytes-1)
		is(t, less, b)
		more, _ := padded(t, s, api.MaxBytes+1)
		tooLong(t, more)
	}
	tooLong(t, mapsOf(1, 128))
	tooLong(t, mapsOf(16, 8))
	// Each of these files is too long by itself.
	tooLong(t, mapsOf(2, 64))
	// A set that is not valid is that first, however long it would be.
	s := mapsOf(1, 128)
	s.Msgs[127].Fields[63].Oneof = 0
	if b, e := descpb.Encode(s); e != api.ErrArg || len(b) > 0 {
		t.Errorf("%d, %d bytes", e, len(b))
	}
}

// P10.2: what is too long is that first, whatever it is.
func TestLongBytes(t *testing.T) {
	for _, start := range [][]byte{nil, {0x0a}, {0xff}, written(everything)} {
		b := append(start, make([]byte, api.MaxBytes-len(start))...)
		refuses(t, "2^20 bytes", b)
		for _, more := range []int{1, 2, 1 << 20, 1 << 26} {
			if s, e := descpb.Decode(append(b, make([]byte, more)...)); e != api.ErrLimit || !deepEqual(s, api.Set{}) {
				t.Errorf("%d more: %d", more, e)
			}
		}
	}
}

// filled is a part with as many of these records as fit, in parts with these numbers.
func filled(inside []byte, numbers ...int) []byte {
	b := bytes.Repeat(inside, (api.MaxBytes-100)/len(inside))
	for _, num := range numbers {
		x := record{num: num, kind: 2, text: string(b)}
		b = x.bytes()
	}
	return b
}

// R1: bytes that no set has, but that have as much in them as possible, take no more
// memory than others. No other test runs beside this one.
func TestGreatBytes(t *testing.T) {
	long := strings.Repeat("x", api.MaxBytes/2)
	half := func(s string) []byte { return bytes.Repeat(written(s), api.MaxBytes/2/len(written(s))-50) }
	part := func(num int, parts ...[]byte) []byte {
		x := record{num: num, kind: 2, text: string(bytes.Join(parts, nil))}
		return x.bytes()
	}
	longName := written(fmt.Sprintf("1%q", long))
	longPackage := written(fmt.Sprintf("2%q", long))
	var deep []byte
	for range 1 << 16 {
		// Backwards, so that what is inside is not copied each time.
		start := binary.AppendUvarint(binary.AppendUvarint(nil, 3<<3|2), uint64(len(deep)))
		slices.Reverse(start)
		deep = append(deep, start...)
	}
	slices.Reverse(deep)
	for what, b := range map[string][]byte{
		"files":                 filled(written(`1{}`)),
		"long files":            filled(written(`1{1"a" 12"proto3"}`)),
		"imports":               filled(written(`3""`), 1),
		"messages":              filled(written(`4{}`), 1),
		"enums":                 filled(written(`5{}`), 1),
		"services":              filled(written(`6{}`), 1),
		"messages in messages":  filled(written(`3{}`), 4, 1),
		"enums in messages":     filled(written(`4{}`), 4, 1),
		"fields":                filled(written(`2{}`), 4, 1),
		"oneofs":                filled(written(`8{}`), 4, 1),
		"ranges":                filled(written(`9{}`), 4, 1),
		"names":                 filled(written(`10""`), 4, 1),
		"entries":               filled(written(`3{7{}}`), 4, 1),
		"values":                filled(written(`2{}`), 5, 1),
		"methods":               filled(written(`2{}`), 6, 1),
		"numbers":               filled(written(`3:1`), 2, 4, 1),
		"messages in many":      filled(written(`3{1"M" 3{1"M" 3{1"M" 3{1"M" 3{1"M" 3{1"M" 3{1"M" 3{1"M"}}}}}}}}`), 4, 1),
		"a deep nest":           part(1, part(4, deep)),
		"a long path":           part(1, longName, half(`4{}`)),
		"a long package":        part(1, longPackage, half(`4{1"M"}`)),
		"a long name, messages": part(1, part(4, longName, half(`3{1"M"}`))),
		"a long name, enums":    part(1, part(4, longName, half(`4{1"M"}`))),
		"a long name, fields":   part(1, part(4, longName, half(`2{1"M" 6".M.1Entry"}`))),
		"names in a name":       part(1, part(4, written(fmt.Sprintf("1%q", long[:130])), half(`3{1"M"}`))),
	} {
		if len(b) > api.MaxBytes || len(b) < api.MaxBytes/3 && what != "a deep nest" {
			t.Errorf("%s: %d bytes", what, len(b))
		}
		var before, after runtime.MemStats
		runtime.ReadMemStats(&before)
		refuses(t, what, b)
		runtime.ReadMemStats(&after)
		if took := after.TotalAlloc - before.TotalAlloc; took > 1<<31 {
			t.Errorf("%s: %d bytes of memory", what, took)
		}
	}
}
