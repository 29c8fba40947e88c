package wire_test

import (
	"bytes"
	"math"
	"math/rand"
	"slices"
	"sync"
	"testing"

	"signetry/api"
	"signetry/wire"
)

// roomy is b with spare capacity behind it, all of whose bytes are known.
func roomy(b []byte) []byte {
	all := append(slices.Clone(b), bytes.Repeat([]byte{0xee}, 32)...)
	return all[:len(b)]
}

// untouched tells whether roomy(b) is still what it was.
func untouched(got, b []byte) bool {
	return bytes.Equal(got, b) && bytes.Equal(got[len(b):len(b)+32], bytes.Repeat([]byte{0xee}, 32))
}

// scribble overwrites a list and all of its capacity.
func scribble(l []byte) {
	l = l[:cap(l)]
	for i := range l {
		l[i] = 0x55
	}
}

// P1.5: Var appends nothing to the memory it is handed.
func TestVarMemory(t *testing.T) {
	b := roomy([]byte("ab"))
	got := wire.Var(b, 300)
	if !untouched(b, []byte("ab")) {
		t.Errorf("the argument is %x", b[:cap(b)])
	}
	scribble(b)
	if !bytes.Equal(got, []byte{'a', 'b', 0xac, 0x02}) {
		t.Errorf("the result became %x", got)
	}
	scribble(wire.Var(b[:0], 1))
	first, second := wire.Var(b, 1), wire.Var(b, 2)
	if first[2] != 1 || second[2] != 2 {
		t.Errorf("results share memory: %x, %x", first, second)
	}
}

// P1.5: the lists of a record share no memory with an argument or each other.
func TestRecordMemory(t *testing.T) {
	raw := unhex(t, "12 02 74 65")
	want := api.Rec{Num: 2, Wire: 2, B: []byte("te"), Raw: raw}
	for name, call := range map[string]func(b []byte) api.Rec{
		"Make": func(b []byte) api.Rec { r, _ := wire.Make(2, 2, 0, b[2:4]); return r },
		"Next": func(b []byte) api.Rec { r, _, _ := wire.Next(b); return r },
		"Split": func(b []byte) api.Rec {
			l, _ := wire.Split(b)
			return l[0]
		},
		"Copy": func(b []byte) api.Rec { return wire.Copy(api.Rec{Num: 2, Wire: 2, B: b[2:], Raw: b}) },
	} {
		b := roomy(raw)
		r := call(b)
		if !wire.Same(r, want) || !untouched(b, raw) {
			t.Errorf("%s: result %+v, argument %x", name, r, b[:cap(b)])
		}
		scribble(b)
		if !wire.Same(r, want) {
			t.Errorf("%s: the result has the argument's memory", name)
		}
		b = roomy(raw)
		r = call(b)
		scribble(r.B)
		if !bytes.Equal(r.Raw, raw) {
			t.Errorf("%s: Raw has the memory of B", name)
		}
		scribble(r.Raw)
		if !untouched(b, raw) {
			t.Errorf("%s: the argument has the result's memory", name)
		}
	}
}

// P1.5: the records of one Split share no memory, including their capacity.
func TestSplitMemory(t *testing.T) {
	b := bytes.Repeat(unhex(t, "12 02 74 65 08 05 12 00"), 3)
	l, e := wire.Split(b)
	if e != api.OK {
		t.Fatal(e)
	}
	want := slices.Clone(l)
	for i := range want {
		want[i] = wire.Copy(l[i])
	}
	for i := range l {
		scribble(l[i].B)
		scribble(l[i].Raw)
		for j := i + 1; j < len(l); j++ {
			if !wire.Same(l[j], want[j]) {
				t.Fatalf("record %d has the memory of record %d", j, i)
			}
		}
	}
}

// P1.5: Check, Bytes and Same only read, and the bytes are new ones.
func TestBytesMemory(t *testing.T) {
	raw := unhex(t, "12 02 74 65")
	l := []api.Rec{{Num: 2, Wire: 2, B: roomy([]byte("te")), Raw: roomy(raw)}}
	got, e := wire.Bytes(l)
	if e != api.OK || wire.Check(l[0]) != api.OK || !wire.Same(l[0], l[0]) {
		t.Fatal("the record is invalid")
	}
	scribble(got)
	if !untouched(l[0].Raw, raw) || !untouched(l[0].B, []byte("te")) {
		t.Errorf("the argument became %x, %x", l[0].Raw, l[0].B)
	}
	got, _ = wire.Bytes(l)
	scribble(l[0].Raw)
	if !bytes.Equal(got, raw) {
		t.Errorf("the result became %x", got)
	}
}

// R1: no call panics, whatever it is given; and an error is one of the layer.
func TestNoPanic(t *testing.T) {
	r := rand.New(rand.NewSource(1))
	ints := []int{math.MinInt, -1 << 31, -1, 0, 1, 2, 3, 5, 7, 8, api.MaxNum, api.MaxNum + 1, 1 << 32, math.MaxInt}
	known := []api.Errno{api.OK, api.ErrArg, api.ErrTrunc, api.ErrForm, api.ErrLimit, api.ErrRange, api.ErrWire}
	for range 50000 {
		b, n := anyBytes(r, r.Intn(24)), anyNumber(r)
		num, kind := ints[r.Intn(len(ints))], ints[r.Intn(len(ints))]
		_, made := wire.Make(num, kind, n, b)
		_, _, next := wire.Next(b)
		_, split := wire.Split(b)
		any := api.Rec{Num: num, Wire: kind, N: n, B: b, Raw: b}
		_, joined := wire.Bytes([]api.Rec{any})
		for _, e := range []api.Errno{made, next, split, wire.Check(any), joined} {
			if !slices.Contains(known, e) {
				t.Fatalf("error %d", e)
			}
		}
		wire.Var(b, n)
		wire.Same(any, wire.Copy(any))
	}
}

// R2: a call returns the same again, after other calls and beside them.
func TestSameResultAgain(t *testing.T) {
	r := rand.New(rand.NewSource(2))
	var inputs [][]byte
	var results []string
	for range 200 {
		b := slices.Concat(anyRecord(r), anyBytes(r, r.Intn(6)))
		inputs, results = append(inputs, b), append(results, told(b))
	}
	var wait sync.WaitGroup
	for range 4 {
		wait.Go(func() {
			for i, b := range inputs {
				if told(b) != results[i] {
					t.Errorf("%x: another result", b)
				}
			}
		})
	}
	wait.Wait()
}

// told is the results of calls for b, as a text that can be compared.
func told(b []byte) string {
	r, n, e := wire.Next(b)
	l, f := wire.Split(b)
	out := append([]byte{byte(n), byte(e), byte(f), byte(len(l))}, r.Raw...)
	for _, x := range l {
		out = append(wire.Var(out, x.N), x.B...)
	}
	return string(out)
}
