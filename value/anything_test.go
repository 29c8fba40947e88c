package value_test

import (
	"fmt"
	"math/rand"
	"reflect"
	"strings"

	"signetry/api"
)

// deepEqual tells whether values are equal but for lists that are nil or empty.
func deepEqual(a, b any) bool {
	all := func(v any) string { return strings.ReplaceAll(fmt.Sprintf("%#v", v), "(nil)", "{}") }
	return all(a) == all(b)
}

// anything is a random value, of any kind and with anything in it, at most so deep.
func anything(r *rand.Rand, deep int) api.Val {
	v := api.Val{Kind: r.Intn(7)}
	if r.Intn(3) == 0 {
		v.Neg = true
	}
	if r.Intn(2) == 0 {
		v.Mag = pick(r, []uint64{0, 1, 2, 127, 1 << 31, 1<<32 - 1, 1 << 32, 1 << 63, 1<<64 - 1})
	}
	if r.Intn(3) == 0 {
		v.B = []byte(pick(r, []string{"", "a", "ab", "\xff", "ä", "\x00"}))
	}
	if r.Intn(3) == 0 {
		v.Name = pick(r, []string{"", "M", "N", "p.M", "E", "\xff"})
	}
	if deep > 1 && r.Intn(3) > 0 {
		for range r.Intn(4) {
			v.F = append(v.F, slot(r.Intn(12)-2, anyList(r, deep-1)...))
		}
	}
	return v
}

func anyList(r *rand.Rand, deep int) (l []api.Val) {
	for range r.Intn(3) {
		l = append(l, anything(r, deep))
	}
	return l
}

// parts is all numbers, texts, bools and lists in a value.
func parts(v reflect.Value) (l []reflect.Value) {
	switch v.Kind() {
	case reflect.Struct:
		for i := range v.NumField() {
			l = append(l, parts(v.Field(i))...)
		}
	case reflect.Slice:
		for i := range v.Len() {
			l = append(l, parts(v.Index(i))...)
		}
		l = append(l, v)
	default:
		l = append(l, v)
	}
	return l
}

// change changes one part of a value that shares no memory with another one.
func change(r *rand.Rand, v reflect.Value) {
	switch v.Kind() {
	case reflect.Bool:
		v.SetBool(!v.Bool())
	case reflect.Int:
		v.SetInt(pick(r, []int64{v.Int() + 1, v.Int() - 1, 0, 1, 2, 3, 4, 5, 6, 7, -1, 1<<32 + v.Int()}))
	case reflect.Uint64:
		v.SetUint(pick(r, []uint64{v.Uint() + 1, v.Uint() - 1, 0, 0, 0, 1, 2, 1<<31 - 1, 1 << 31, 1<<31 + 1, 1<<32 - 1, 1 << 32, 1<<63 - 1, 1 << 63, 1<<63 + 1, 1<<64 - 1}))
	case reflect.Uint8:
		v.SetUint(pick(r, []uint64{uint64(byte(v.Uint() + 1)), 0, 'a', 'b', 0x80, 0xc3, 0xff}))
	case reflect.String:
		v.SetString(pick(r, []string{"", "M", "N", "E", "p.M", "p.M.N", v.String() + "x"}))
	case reflect.Slice:
		changeList(r, v)
	}
}

// changeList leaves out, doubles, adds or exchanges elements.
func changeList(r *rand.Rand, v reflect.Value) {
	n := v.Len()
	i, j := r.Intn(n+1), r.Intn(n+1)
	switch r.Intn(4) {
	case 0:
		v.Set(reflect.Append(v, reflect.Zero(v.Type().Elem())))
	case 1:
		if i < n {
			v.Set(reflect.AppendSlice(v.Slice3(0, i, i), v.Slice(i+1, n)))
		}
	case 2:
		if i < n && j < n {
			reflect.Swapper(v.Interface())(i, j)
		}
	case 3:
		if i < n {
			v.Set(reflect.AppendSlice(reflect.Append(v.Slice3(0, i, i), v.Index(i)), v.Slice(i, n)))
		}
	}
}
