package dec_test

import (
	"math/rand"
	"reflect"

	"signetry/api"
)

// anything is a random value, of any kind and with anything in it, at most so deep.
func anything(r *rand.Rand, deep int) api.Val {
	v := api.Val{Kind: r.Intn(7)}
	if r.Intn(3) == 0 {
		v.Neg = true
	}
	if r.Intn(2) == 0 {
		v.Mag = pick(r, []uint64{0, 1, 2, 127, 1 << 31, 1<<32 - 1, 1 << 32, 1 << 63, 1<<64 - 1})
	}
	if r.Intn(3) == 0 {
		v.B = []byte(pick(r, []string{"", "a", "ab", "\xff", "ä", "\x00"}))
	}
	if r.Intn(3) == 0 {
		v.Name = pick(r, []string{"", "M", "N", "p.M", "E", "\xff"})
	}
	if deep > 1 && r.Intn(3) > 0 {
		for range r.Intn(4) {
			v.F = append(v.F, slot(r.Intn(12)-2, anyList(r, deep-1)...))
		}
	}
	return v
}

func anyList(r *rand.Rand, deep int) (l []api.Val) {
	for range r.Intn(3) {
		l = append(l, anything(r, deep))
	}
	return l
}

// parts is all numbers, texts, bools and lists in a value.
func parts(v reflect.Value) (l []reflect.Value) {
	switch v.Kind() {
	case reflect.Struct:
		for i := range v.NumField() {
			l = append(l, parts(v.Field(i))...)
		}
	case reflect.Slice:
		for i := range v.Len() {
			l = append(l, parts(v.Index(i))...)
		}
		l = append(l, v)
	default:
		l = append(l, v)
	}
	return l
}

// change changes one part of a value that shares no memory with another one.
func change(r *rand.Rand, v reflect.Value) {
	switch v.Kind() {
	case reflect.Bool:
		v.SetBool(!v.Bool())
	case reflect.Int:
		v.SetInt(pick(r, []int64{v.Int() + 1, v.Int() - 1, 0, 1, 2, 3, 4, 5, 6, 7, -1, 1<<32 + v.Int()}))
	case reflect.Uint64:
		v.SetUint(pick(r, []uint64{v.Uint() + 1, v.Uint() - 1, 0, 0, 0, 1, 2, 1<<31 - 1, 1 << 31, 1<<31 + 1, 1<<32 - 1, 1 << 32, 1<<63 - 1, 1 << 63, 1<<63 + 1, 1<<64 - 1}))
	case reflect.Uint8:
		v.SetUint(pick(r, []uint64{uint64(byte(v.Uint() + 1)), 0, 'a', 'b', 0x80, 0xc3, 0xff}))
	case reflect.String:
		v.SetString(pick(r, []string{"", "M", "N", "E", "p.M", "p.M.N", v.String() + "x"}))
	case reflect.Slice:
		changeList(r, v)
	}
}

// changeList leaves out, doubles, adds or exchanges elements.
func changeList(r *rand.Rand, v reflect.Value) {
	n := v.Len()
	i, j := r.Intn(n+1), r.Intn(n+1)
	switch r.Intn(4) {
	case 0:
		v.Set(reflect.Append(v, reflect.Zero(v.Type().Elem())))
	case 1:
		if i < n {
			v.Set(reflect.AppendSlice(v.Slice3(0, i, i), v.Slice(i+1, n)))
		}
	case 2:
		if i < n && j < n {
			reflect.Swapper(v.Interface())(i, j)
		}
	case 3:
		if i < n {
			v.Set(reflect.AppendSlice(reflect.Append(v.Slice3(0, i, i), v.Index(i)), v.Slice(i, n)))
		}
	}
}

// withRoom is a value with room behind each of its lists, in which there is
// something, and all these lists with what is behind them.
func withRoom(v reflect.Value, all *[]reflect.Value) {
	switch v.Kind() {
	case reflect.Struct:
		for i := range v.NumField() {
			withRoom(v.Field(i), all)
		}
	case reflect.Slice:
		n := v.Len()
		more := reflect.MakeSlice(v.Type(), n+2, n+2)
		reflect.Copy(more, v)
		for i := range n {
			withRoom(more.Index(i), all)
		}
		for i := range 2 {
			fill(more.Index(n + i))
		}
		*all = append(*all, more)
		v.Set(more.Slice(0, n))
	}
}

// fill puts something in each part of a value that is no list.
func fill(v reflect.Value) {
	switch v.Kind() {
	case reflect.String:
		v.SetString("behind")
	case reflect.Int:
		v.SetInt(7)
	case reflect.Uint8, reflect.Uint64:
		v.SetUint(7)
	case reflect.Struct:
		for i := range v.NumField() {
			fill(v.Field(i))
		}
	case reflect.Array:
		for i := range v.Len() {
			fill(v.Index(i))
		}
	}
}

// ruin changes all of a value, with all that it shares.
func ruin(v reflect.Value) {
	switch v.Kind() {
	case reflect.Struct:
		for i := range v.NumField() {
			ruin(v.Field(i))
		}
	case reflect.Slice:
		v = v.Slice(0, v.Cap())
		for i := range v.Len() {
			ruin(v.Index(i))
		}
	case reflect.Array:
		for i := range v.Len() {
			ruin(v.Index(i))
		}
	case reflect.String:
		v.SetString("ruined")
	case reflect.Int:
		v.SetInt(-77)
	case reflect.Uint8, reflect.Uint64:
		v.SetUint(0xEE)
	case reflect.Bool:
		v.SetBool(!v.Bool())
	}
}
