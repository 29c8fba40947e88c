package dec_test

import (
	"bytes"
	"fmt"
	"runtime"
	"slices"
	"testing"
	"time"

	"signetry/api"
	"signetry/dec"
	"signetry/enc"
	"signetry/value"
)

// inside is bytes in records that are inside of each other, by their numbers from
// within.
func inside(b []byte, nums ...int) []byte {
	for _, n := range nums {
		b = record(n, b)
	}
	return b
}

// P13.1: the bytes of a message are at most 30 deep, whatever they are in.
func TestDepthOfBytes(t *testing.T) {
	s := built(t, treeOf)
	for _, n := range []int{2, 3, 8} {
		for deep := 1; deep <= 40; deep++ {
			b := inside(nil, slices.Repeat([]int{n}, deep-1)...)
			if deep > 30 {
				refuses(t, s, "M", b, api.ErrLimit)
			} else {
				reads(t, s, "M", b, nest(deep, "M", n))
			}
		}
	}
	// An entry counts, and so does the message in it.
	for deep := 1; deep <= 17; deep++ {
		b, v := []byte(nil), msg("M")
		for range deep {
			b, v = record(4, record(2, b)), msg("M", slot(4, entry(num(0), v)))
		}
		if deep > 14 {
			refuses(t, s, "M", b, api.ErrLimit)
			refuses(t, s, "M", record(2, b), api.ErrLimit)
		} else {
			reads(t, s, "M", b, v)
			reads(t, s, "M", record(2, b), msg("M", slot(2, v)))
		}
	}
}

// P13.1: too deep comes ahead of all that is wrong in what is too deep, but behind what
// is wrong around it.
func TestTooDeepBytes(t *testing.T) {
	s := built(t, treeOf)
	for _, text := range []string{"", "08", "00", "0b", "7a01ff", "0a818040", "0801", "12020801"} {
		for _, nums := range [][]int{slices.Repeat([]int{2}, 30), slices.Repeat([]int{3}, 30), append([]int{2, 4}, slices.Repeat([]int{2}, 28)...), append([]int{6}, slices.Repeat([]int{8}, 29)...)} {
			b := inside(raw(text), nums...)
			refuses(t, s, "M", b, api.ErrLimit)
			refuses(t, s, "M", slices.Concat(b, raw("7a01ff")), api.ErrLimit)
			refuses(t, s, "M", slices.Concat(raw("7a01ff"), b), api.ErrUtf)
			refuses(t, s, "M", slices.Concat(b, raw("0b")), api.ErrWire)
			refuses(t, s, "M", slices.Concat(b, raw("08")), api.ErrTrunc)
			refuses(t, s, "M", slices.Concat(raw("3801"), b, raw("3801")), api.ErrLimit)
		}
		// One less deep it has its own error.
		b := inside(raw(text), slices.Repeat([]int{2}, 29)...)
		likeSecond(t, s, "M", b)
		likeSecond(t, s, "M", slices.Concat(b, raw("7a01ff")))
	}
	b := inside(raw("7a01ff"), slices.Repeat([]int{2}, 29)...)
	refuses(t, s, "M", b, api.ErrUtf)
	b = inside(raw("0b"), slices.Repeat([]int{2}, 29)...)
	refuses(t, s, "M", b, api.ErrWire)
	// What is not read as a message is of any depth.
	b = inside(nil, append(slices.Repeat([]int{2}, 40), 12)...)
	reads(t, s, "M", b, msg("M", slot(12, api.Val{Kind: api.KBytes, B: inside(nil, slices.Repeat([]int{2}, 40)...)})))
	b = inside(nil, append(slices.Repeat([]int{2}, 40), 99)...)
	reads(t, s, "M", b, msg("M"), b)
	b = inside(inside(nil, append(slices.Repeat([]int{2}, 40), 99)...), slices.Repeat([]int{2}, 29)...)
	reads(t, s, "M", b, nest(30, "M", 2))
	// As deep as bytes can be.
	b = nil
	for len(b) < api.MaxBytes-8 {
		b = append(varintsOf(2<<3|2, len(b)), b...)
		if len(b) > 1<<14 {
			break
		}
	}
	refuses(t, s, "M", b, api.ErrLimit)
}

// varintsOf is some numbers.
func varintsOf(l ...int) (b []byte) {
	for _, n := range l {
		b = append(b, longer(0, uint64(n))...)
	}
	return b
}

// P13.1: a value is at most 30 deep: bytes that are less deep may have one that is more,
// which is an error at the end only.
func TestDepthOfValues(t *testing.T) {
	s := built(t, treeOf)
	for _, n := range []int{2, 3, 8} {
		at := func(deep int, text string) []byte { return inside(raw(text), slices.Repeat([]int{n}, deep-1)...) }
		reads(t, s, "M", at(30, ""), nest(30, "M", n))
		// Slots that are none.
		for _, text := range []string{"0800", "0801 0800", "2a00", "7a00", "9a0100", "0d01000000"} {
			reads(t, s, "M", at(30, text), nest(30, "M", n))
		}
		for _, text := range []string{"0801", "7000", "2a0100", "3801", "7a0161", "6a00"} {
			must(t, s, "M", at(28, text))
			b := at(30, text)
			refuses(t, s, "M", b, api.ErrLimit)
			// All other errors come ahead of it.
			refuses(t, s, "M", slices.Concat(b, raw("7a01ff")), api.ErrUtf)
			refuses(t, s, "M", slices.Concat(b, raw("2a0180")), api.ErrTrunc)
			refuses(t, s, "M", slices.Concat(b, record(2, raw("0b"))), api.ErrWire)
			refuses(t, s, "M", slices.Concat(b, raw("2a0b8080808080808080808000")), api.ErrForm)
			if n == 8 {
				reads(t, s, "M", slices.Concat(b, raw("3801")), msg("M", slot(7, num(1))))
				reads(t, s, "M", slices.Concat(b, raw("3801"), raw("4200")), msg("M", slot(8, msg("M"))))
			}
			reads(t, s, "M", slices.Concat(record(4, record(2, at(28, "7000"))), record(4)), msg("M", slot(4, entry(num(0), msg("M")))))
		}
		must(t, s, "M", at(29, "0801"))
		must(t, s, "M", at(28, "3200"))
		refuses(t, s, "M", at(29, "3200"), api.ErrLimit)
		must(t, s, "M", at(28, "2200"))
		refuses(t, s, "M", at(29, "2200"), api.ErrLimit)
	}
	// What is removed in the end.
	tooDeep := inside(raw("0801"), slices.Repeat([]int{2}, 29)...)
	b := slices.Concat(tooDeep, inside(raw("0800"), slices.Repeat([]int{2}, 29)...))
	reads(t, s, "M", b, nest(30, "M", 2))
	b = slices.Concat(record(4, record(2, inside(raw("0801"), slices.Repeat([]int{2}, 27)...))), record(4))
	reads(t, s, "M", b, msg("M", slot(4, entry(num(0), msg("M")))))
	refuses(t, s, "M", slices.Concat(b, record(4, raw("0801"), record(2, inside(raw("0801"), slices.Repeat([]int{2}, 27)...)))), api.ErrLimit)
}

// P13.1: a value has at most 4000 values in total.
func TestMostValues(t *testing.T) {
	t.Parallel()
	s := built(t, treeOf)
	var keys []api.Val
	for i := range 1333 {
		keys = append(keys, entry(num(i), num(0)))
	}
	one := msg("M", slot(1, num(1)))
	for what, x := range map[string]struct {
		of   func(more int) []byte
		want api.Val
	}{
		"single values": {func(n int) []byte { return bytes.Repeat(raw("2805"), 3999+n) }, msg("M", slot(5, times(3999, num(5))...))},
		"a packed list": {func(n int) []byte { return record(5, bytes.Repeat([]byte{1}, 3999+n)) }, msg("M", slot(5, times(3999, num(1))...))},
		"packed lists":  {func(n int) []byte { return bytes.Repeat(raw("2a03010101"), 1333+n) }, msg("M", slot(5, times(3999, num(1))...))},
		"bytes":         {func(n int) []byte { return bytes.Repeat(raw("6a00"), 3999+n) }, msg("M", slot(13, times(3999, str(""))...))},
		"messages":      {func(n int) []byte { return bytes.Repeat(raw("1a00"), 3999+n) }, msg("M", slot(3, times(3999, msg("M"))...))},
		"messages with one": {
			func(n int) []byte { return append(bytes.Repeat(raw("1a020801"), 1999+n), raw("0801")...) },
			msg("M", slot(1, num(1)), slot(3, times(1999, one)...))},
		"in a message":       {func(n int) []byte { return record(2, bytes.Repeat(raw("2805"), 3998+n)) }, msg("M", slot(2, msg("M", slot(5, times(3998, num(5))...))))},
		"message by message": {func(n int) []byte { return bytes.Repeat(raw("12022805"), 3998+n) }, msg("M", slot(2, msg("M", slot(5, times(3998, num(5))...))))},
		"several": {
			func(n int) []byte { return append(bytes.Repeat(raw("2805"), 3996+n), raw("0801 1200 3801")...) },
			msg("M", slot(1, num(1)), slot(2, msg("M")), slot(5, times(3996, num(5))...), slot(7, num(1)))},
		"entries": {func(n int) (b []byte) {
			for i := range 1333 + n {
				b = append(record(17, varintsOf(8, i)), b...)
			}
			return b
		}, msg("M", slot(17, keys...))},
	} {
		reads(t, s, "M", x.of(0), x.want)
		if many, _ := value.Size(x.want); many != api.MaxNodes {
			t.Errorf("%s: %d values", what, many)
		}
		refuses(t, s, "M", x.of(1), api.ErrLimit)
		// All other errors come ahead of it.
		refuses(t, s, "M", slices.Concat(x.of(1), raw("7a01ff")), api.ErrUtf)
		refuses(t, s, "M", slices.Concat(x.of(1), raw("2a0180")), api.ErrTrunc)
		refuses(t, s, "M", slices.Concat(x.of(1), raw("12010b")), api.ErrWire)
		refuses(t, s, "M", slices.Concat(x.of(1), raw("00")), api.ErrForm)
		// Unknown records are no values.
		m := must(t, s, "M", slices.Concat(x.of(0), bytes.Repeat(raw("980105"), 5000)))
		isMess(t, nil, m, messOf(t, x.want, slices.Repeat([][]byte{raw("980105")}, 5000)...))
		// What is in a member of a oneof, or in an entry, may be removed again.
		reads(t, s, "M", slices.Concat(record(8, x.of(1), x.of(1)), raw("3801")), msg("M", slot(7, num(1))))
		reads(t, s, "M", slices.Concat(record(4, record(2, x.of(1))), record(4)), msg("M", slot(4, entry(num(0), msg("M")))))
	}
}

// P13.1: records that are replaced are no values: there may be any number of them.
func TestReplacedRecords(t *testing.T) {
	t.Parallel()
	s := built(t, treeOf)
	for text, want := range map[string]api.Val{
		"0801":          msg("M", slot(1, num(1))),
		"0800":          msg("M"),
		"7001":          msg("M", slot(14, num(1))),
		"7a0161":        msg("M", slot(15, str("a"))),
		"1200":          msg("M", slot(2, msg("M"))),
		"12020801":      msg("M", slot(2, msg("M", slot(1, num(1))))),
		"3801":          msg("M", slot(7, num(1))),
		"3801 4200":     msg("M", slot(8, msg("M"))),
		"42020801 4a00": msg("M", slot(9, str(""))),
		"2200":          msg("M", slot(4, entry(num(0), msg("M")))),
		"320408011005":  msg("M", slot(6, entry(num(1), num(5)))),
		"2a00":          msg("M"),
		"12043202 0801": msg("M", slot(2, msg("M", slot(6, entry(num(1), num(0)))))),
		"2204 12023801": msg("M", slot(4, entry(num(0), msg("M", slot(7, num(1)))))),
	} {
		reads(t, s, "M", bytes.Repeat(raw(text), 5000), want)
	}
}

// P13.1: bytes have at most 2^20 bytes, whatever is in them; one more is an error ahead
// of all others in them.
func TestMostBytes(t *testing.T) {
	t.Parallel()
	s := built(t, treeOf)
	long := bytes.Repeat([]byte("x"), api.MaxBytes-4)
	b := record(12, long)
	if len(b) != api.MaxBytes {
		t.Fatal(len(b))
	}
	reads(t, s, "M", b, msg("M", slot(12, api.Val{Kind: api.KBytes, B: long})))
	reads(t, s, "M", record(15, long), msg("M", slot(15, api.Val{Kind: api.KBytes, B: long})))
	reads(t, s, "M", record(3, record(12, long[:api.MaxBytes-8])), msg("M", slot(3, msg("M", slot(12, api.Val{Kind: api.KBytes, B: long[:api.MaxBytes-8]})))))
	unknown := record(18, long[:api.MaxBytes-5])
	reads(t, s, "M", unknown, msg("M"), unknown)
	reads(t, s, "M", bytes.Repeat(raw("0801"), api.MaxBytes/2), msg("M", slot(1, num(1))))
	for _, more := range []string{"78", "0801", "00", "0b", "7a01ff", "980105"} {
		refuses(t, s, "M", append(slices.Clone(b), raw(more)...), api.ErrLimit)
		refuses(t, s, "M", append(raw(more), b...), api.ErrLimit)
	}
	refuses(t, s, "M", record(12, append(long, 'x')), api.ErrLimit)
	for _, c := range []byte{0, 8, 0x0b, 0x80, 0xff} {
		refuses(t, s, "M", bytes.Repeat([]byte{c}, api.MaxBytes+1), api.ErrLimit)
		refuses(t, s, "M", bytes.Repeat([]byte{c}, 1<<23), api.ErrLimit)
	}
	refuses(t, s, "M", bytes.Repeat([]byte{0xff}, api.MaxBytes), api.ErrForm)
	refuses(t, s, "M", bytes.Repeat([]byte{0x0b}, api.MaxBytes), api.ErrWire)
}

// heavy is bytes that take much: as many records as there may be, of each kind, and
// all that could be read or put in order again for each of them.
func heavy() map[string][]byte {
	const n = api.MaxBytes
	falling := func(entry func(k int) []byte) (b []byte) {
		for k := 1 << 20; len(b) < n-20; k-- {
			b = append(b, entry(k)...)
		}
		return b
	}
	deep := inside(raw("0801"), slices.Repeat([]int{2}, 28)...)
	return map[string][]byte{
		"falling numbers":  falling(func(k int) []byte { return record(6, varintsOf(16, k)) }),
		"falling keys":     falling(func(k int) []byte { return record(4, varintsOf(8, k)) }),
		"falling texts":    falling(func(k int) []byte { return record(17, record(1, fmt.Appendf(nil, "%06x", k))) }),
		"in messages":      falling(func(k int) []byte { return record(2, record(4, varintsOf(8, k))) }),
		"message parts":    bytes.Repeat(raw("12020801"), n/4),
		"deep parts":       bytes.Repeat(deep, n/len(deep)),
		"parts of entries": record(4, bytes.Repeat(raw("1202280112022802"), n/8-1)),
		"lists in parts":   bytes.Repeat(raw("12022801"), n/4),
		"messages":         bytes.Repeat(raw("1a00"), n/2),
		"entries":          bytes.Repeat(raw("3200"), n/2),
		"unknown":          bytes.Repeat(raw("980105"), n/3),
		"a packed list":    record(5, bytes.Repeat([]byte{1}, n-4)),
		"packed lists":     bytes.Repeat(raw("2a00"), n/2),
		"a long number":    record(5, bytes.Repeat([]byte{0x80}, n-5), []byte{0}),
		"a number cut off": record(5, bytes.Repeat([]byte{0x80}, n-4)),
		"members":          bytes.Repeat(raw("38014202080150015801"), n/10),
		"a deep list":      inside(bytes.Repeat(raw("2a020101"), n/4-100), slices.Repeat([]int{3}, 28)...),
	}
}

// R1: no bytes take long, or much memory: not more than in proportion to their number.
func TestHeavyBytes(t *testing.T) {
	s := built(t, `a:message M{int32 a=1;M m=2;repeated M l=3;map<int32,M>k=4;repeated int32 r=5;map<bool,int32>b=6;oneof o{int32 x=7;M y=8;string z=9;}oneof p{int32 u=10;int32 v=11;}map<string,bool>t=17;}`)
	for what, b := range heavy() {
		var before, after runtime.MemStats
		runtime.ReadMemStats(&before)
		from := time.Now()
		m, e := dec.Decode(s, "M", b)
		took := time.Since(from)
		runtime.ReadMemStats(&after)
		if took > 20*time.Second || after.TotalAlloc-before.TotalAlloc > 1<<31 {
			t.Errorf("%s: %v, %d bytes of memory", what, took, after.TotalAlloc-before.TotalAlloc)
		}
		if e == api.OK && value.Check(s, "M", m.V) != api.OK {
			t.Errorf("%s: no value", what)
		}
	}
}

// P13.1: values with as many bytes as there may be are read as they were.
func TestLongValues(t *testing.T) {
	t.Parallel()
	s := built(t, treeOf)
	x := api.Val{Kind: api.KBytes, B: bytes.Repeat([]byte("x"), 250)}
	v := msg("M", slot(13, times(3999, x)...))
	for _, v := range []api.Val{v, msg("M", slot(3, times(1300, msg("M", slot(12, x), slot(15, x)))...))} {
		b, e := enc.Encode(s, "M", v, nil)
		if e != api.OK || len(b) < 600000 {
			t.Fatalf("%d, %d bytes", e, len(b))
		}
		reads(t, s, "M", b, v)
	}
}
