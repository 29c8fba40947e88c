package enc_test

import (
	"bytes"
	"math/rand"
	"runtime"
	"strings"
	"testing"

	"signetry/api"
	"signetry/enc"
)

// long is bytes, as many as that.
func long(n int) api.Val { return api.Val{Kind: api.KBytes, B: bytes.Repeat([]byte("x"), n)} }

// ends checks a value that has 2^20 bytes if pad is given the right count of them, with
// one byte less, with as many, and with one more.
func ends(t *testing.T, s api.Set, what string, of func(pad int) api.Val) {
	t.Helper()
	const guess = api.MaxBytes - 5000
	exact := guess + api.MaxBytes - len(secondBytes(s, "M", of(guess), nil))
	for more := -1; more <= 2; more++ {
		v := of(exact + more)
		want := []byte(secondBytes(s, "M", v, nil))
		if len(want) != api.MaxBytes+more {
			t.Fatalf("%s: %d bytes", what, len(want))
		}
		for _, order := range [][]int{nil, enc.Rising(v)} {
			if more > 0 {
				refuses(t, s, "M", v, order, api.ErrLimit)
			} else {
				writes(t, s, "M", v, order, want)
			}
		}
		// All of it in the records of fields.
		if len(v.F) == 1 {
			if f := fieldOf(t, s, "M", v.F[0].Num); more > 0 {
				denies(t, s, f, api.ErrLimit, v.F[0].L...)
			} else {
				lists(t, s, f, want, v.F[0].L...)
			}
		}
	}
}

// limitSet is a set for what is long.
const limitSet = `a:message M{int32 a=1;M m=2;repeated M l=3;map<int32,M>k=4;repeated int32 r=5;bytes t=6;repeated bytes w=7;map<string,bytes>e=8;oneof o{string x=9;}repeated bool p=10;repeated double d=11;int32 z=100000;}`

// P12.1, P12.2: values with 2^20 bytes, and with one more, wherever the last byte is.
func TestMostBytes(t *testing.T) {
	t.Parallel()
	s := built(t, limitSet)
	inner := func(v api.Val) api.Val { return msg("M", slot(2, v)) }
	for what, of := range map[string]func(pad int) api.Val{
		"bytes":             func(n int) api.Val { return msg("M", slot(6, long(n))) },
		"a string":          func(n int) api.Val { return msg("M", slot(9, long(n))) },
		"the last of many":  func(n int) api.Val { return msg("M", slot(7, long(5), long(7), long(n))) },
		"the first of many": func(n int) api.Val { return msg("M", slot(7, long(n), long(5), long(7))) },
		"halves":            func(n int) api.Val { return msg("M", slot(7, long(n/2), long(n-n/2))) },
		"many pieces": func(n int) api.Val {
			l := append(times(3000, long(n/3001)), long(n/3001+n%3001))
			return msg("M", slot(7, l...))
		},
		"a message":    func(n int) api.Val { return inner(msg("M", slot(6, long(n)))) },
		"messages":     func(n int) api.Val { return msg("M", slot(3, msg("M", slot(6, long(n))), msg("M"), inner(msg("M")))) },
		"the last one": func(n int) api.Val { return msg("M", slot(3, inner(msg("M")), msg("M", slot(6, long(n))), msg("M"))) },
		"a deep nest": func(n int) api.Val {
			v := msg("M", slot(6, long(n)))
			for range 28 {
				v = msg("M", slot(1, num(-1)), slot(2, v), slot(1e5, num(-1)))
			}
			return v
		},
		"an entry":             func(n int) api.Val { return msg("M", slot(8, entry(str("k"), long(n)))) },
		"a key":                func(n int) api.Val { return msg("M", slot(8, entry(long(n), str("v")))) },
		"many entries":         func(n int) api.Val { return msg("M", slot(8, entry(str("a"), str("")), entry(long(n), long(0)))) },
		"an entry's message":   func(n int) api.Val { return msg("M", slot(4, entry(num(-1), msg("M", slot(6, long(n)))))) },
		"a slot ahead of it":   func(n int) api.Val { return msg("M", slot(1, num(-1)), slot(6, long(n))) },
		"slots behind it":      func(n int) api.Val { return msg("M", slot(6, long(n)), slot(9, str("")), slot(1e5, num(-1))) },
		"a packed list behind": func(n int) api.Val { return msg("M", slot(6, long(n)), slot(10, times(300, num(1))...)) },
		"a packed list ahead":  func(n int) api.Val { return msg("M", slot(5, times(300, num(-1))...), slot(6, long(n))) },
		"a message behind":     func(n int) api.Val { return msg("M", slot(2, inner(msg("M"))), slot(6, long(n))) },
	} {
		t.Run(what, func(t *testing.T) { ends(t, s, what, of) })
	}
}

// P12.1, P12.2: parts that are too long by themselves, so that there is nothing of them
// that could be too long for the whole.
func TestTooLongParts(t *testing.T) {
	t.Parallel()
	s := built(t, limitSet)
	for _, n := range []int{api.MaxBytes - 3, api.MaxBytes, api.MaxBytes + 1, 1 << 22} {
		part := msg("M", slot(6, long(n)))
		around := []api.Slot{
			slot(2, part),
			slot(3, part),
			slot(3, msg("M"), part, msg("M", slot(1, num(1)))),
			slot(4, entry(num(1), part)),
			slot(4, entry(num(1), msg("M")), entry(num(2), part), entry(num(3), msg("M"))),
			slot(8, entry(str("k"), long(n))),
			slot(8, entry(long(n), str("v"))),
			slot(2, msg("M", slot(2, msg("M", slot(3, msg("M"), part, msg("M")))))),
			slot(2, msg("M", slot(8, entry(str("a"), str("")), entry(str("k"), long(n))))),
			slot(2, msg("M", slot(4, entry(num(1), msg("M", slot(2, part)))))),
		}
		for _, x := range around {
			refuses(t, s, "M", msg("M", x), nil, api.ErrLimit)
			refuses(t, s, "M", msg("M", slot(1, num(1)), x, slot(1e5, num(1))), nil, api.ErrLimit)
			refuses(t, s, "M", msg("M", x, slot(1e5, num(1))), []int{1e5, x.Num}, api.ErrLimit)
			denies(t, s, fieldOf(t, s, "M", x.Num), api.ErrLimit, x.L...)
		}
	}
}

// P12.1: in any order, and by whatever slot there are too many.
func TestMostBytesInOrders(t *testing.T) {
	t.Parallel()
	s := built(t, limitSet)
	r := rand.New(rand.NewSource(3))
	of := func(pad int) api.Val {
		return msg("M", slot(1, num(-1)), slot(2, msg("M", slot(1, num(1)))), slot(5, times(9, num(-1))...), slot(6, long(pad)), slot(7, long(1), long(300)), slot(8, entry(str("k"), str("v"))), slot(1e5, num(1)))
	}
	exact := api.MaxBytes - len(secondBytes(s, "M", of(1e6), nil)) + 1e6
	for range 30 {
		order := enc.Rising(of(1))
		r.Shuffle(len(order), func(i, j int) { order[i], order[j] = order[j], order[i] })
		v := of(exact)
		writes(t, s, "M", v, order, []byte(secondBytes(s, "M", v, order)))
		refuses(t, s, "M", of(exact+1), order, api.ErrLimit)
	}
}

// P12.2: lists of more values than a value may have, with 2^20 bytes and one more.
func TestLongLists(t *testing.T) {
	t.Parallel()
	s := built(t, limitSet)
	p, d, r, w, l := fieldOf(t, s, "M", 10), fieldOf(t, s, "M", 11), fieldOf(t, s, "M", 5), fieldOf(t, s, "M", 7), fieldOf(t, s, "M", 3)
	// A number and a length take four bytes.
	const most = api.MaxBytes - 4
	lists(t, s, p, append(raw("52fcff3f"), bytes.Repeat([]byte{1}, most)...), times(most, num(1))...)
	denies(t, s, p, api.ErrLimit, times(most+1, num(1))...)
	denies(t, s, p, api.ErrLimit, times(api.MaxBytes+1, num(1))...)
	lists(t, s, d, append(raw("5af8ff3f"), bytes.Repeat(raw("0100000000000000"), most/8)...), times(most/8, f64(1))...)
	denies(t, s, d, api.ErrLimit, times(most/8+1, f64(1))...)
	longer := append(times(most/10, num(-1)), times(most%10, num(1))...)
	lists(t, s, r, []byte(secondRecords(s, r, longer)), longer...)
	denies(t, s, r, api.ErrLimit, append(longer, num(0))...)
	longer[len(longer)-1] = num(128)
	denies(t, s, r, api.ErrLimit, longer...)
	lists(t, s, w, bytes.Repeat(raw("3a00"), api.MaxBytes/2), times(api.MaxBytes/2, str(""))...)
	denies(t, s, w, api.ErrLimit, times(api.MaxBytes/2+1, str(""))...)
	lists(t, s, l, bytes.Repeat(raw("1a00"), api.MaxBytes/2), times(api.MaxBytes/2, msg("M"))...)
	denies(t, s, l, api.ErrLimit, times(api.MaxBytes/2+1, msg("M"))...)
	denies(t, s, l, api.ErrLimit, append(times(api.MaxBytes/2-1, msg("M")), msg("M", slot(1, num(1))))...)
}

// P12.2: maps of as many entries as fit.
func TestLongMaps(t *testing.T) {
	t.Parallel()
	f := mapOf(api.TFixed32, api.TBool)
	var l []api.Val
	var want []byte
	for n := range api.MaxBytes / 9 {
		l = append(l, entry(num(n), num(1)))
		want = append(want, 0x0a, 7, 0x0d, byte(n), byte(n>>8), byte(n>>16), 0, 0x10, 1)
	}
	// 9 bytes each, and 1 is left.
	lists(t, api.Set{}, f, want, l...)
	denies(t, api.Set{}, f, api.ErrLimit, append(l, entry(num(1<<31), num(0)))...)
}

// R1: values whose parts share their memory, so that all bytes of them are far more
// than there are, need no memory for these. No other test runs beside this one.
func TestSharedBytes(t *testing.T) {
	s := built(t, limitSet)
	x, huge := long(api.MaxBytes-100), long(1<<26)
	list := times(3000, x)
	byMessages := msg("M", slot(3, times(1500, msg("M", slot(6, x)))...))
	var entries []api.Val
	for n := range 1300 {
		entries = append(entries, entry(str(strings.Repeat("k", n)), x))
	}
	deep := msg("M", slot(7, times(100, huge)...))
	for range 25 {
		deep = msg("M", slot(3, msg("M", slot(6, x)), deep, msg("M", slot(6, huge))))
	}
	wide := msg("M", slot(5, times(3999, num(-1))...))
	m := fieldOf(t, s, "M", 3)
	for what, call := range map[string]func() ([]byte, api.Errno){
		"a list":           func() ([]byte, api.Errno) { return enc.Encode(s, "M", msg("M", slot(7, list...)), nil) },
		"messages":         func() ([]byte, api.Errno) { return enc.Encode(s, "M", byMessages, []int{3}) },
		"entries":          func() ([]byte, api.Errno) { return enc.Encode(s, "M", msg("M", slot(8, entries...)), nil) },
		"one":              func() ([]byte, api.Errno) { return enc.Encode(s, "M", msg("M", slot(6, huge)), nil) },
		"a deep one":       func() ([]byte, api.Errno) { return enc.Encode(s, "M", deep, nil) },
		"records":          func() ([]byte, api.Errno) { return enc.Records(s, fieldOf(t, s, "M", 7), list) },
		"long records":     func() ([]byte, api.Errno) { return enc.Records(s, fieldOf(t, s, "M", 7), times(50000, huge)) },
		"many records":     func() ([]byte, api.Errno) { return enc.Records(s, m, times(30, byMessages)) },
		"records of lists": func() ([]byte, api.Errno) { return enc.Records(s, m, times(500, wide)) },
	} {
		var before, after runtime.MemStats
		runtime.ReadMemStats(&before)
		b, e := call()
		runtime.ReadMemStats(&after)
		if e != api.ErrLimit || len(b) > 0 {
			t.Errorf("%s: %d, %d bytes", what, e, len(b))
		}
		if took := after.TotalAlloc - before.TotalAlloc; took > 1<<29 {
			t.Errorf("%s: %d bytes of memory", what, took)
		}
	}
}
