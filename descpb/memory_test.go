package descpb_test

import (
	"bytes"
	"cmp"
	"fmt"
	"math/rand"
	"reflect"
	"slices"
	"sync"
	"testing"
	"unsafe"

	"signetry/api"
	"signetry/build"
	"signetry/descpb"
)

// area is memory, from one address up to another, and what is there.
type area struct {
	from, to uintptr
	what     string
}

func (a area) meets(b area) bool {
	return a.from < b.to && b.from < a.to
}

// areas is the memory of all strings and lists in a value, with the unused
// capacity of the lists. Strings of one byte are left out, as all of them are at
// the same places.
func areas(v any) (l []area) {
	var add func(v reflect.Value, what string)
	add = func(v reflect.Value, what string) {
		switch v.Kind() {
		case reflect.String:
			if s := v.String(); len(s) > 1 {
				from := uintptr(unsafe.Pointer(unsafe.StringData(s)))
				l = append(l, area{from, from + uintptr(len(s)), what + " " + s[:min(len(s), 30)]})
			}
		case reflect.Slice:
			if v.Cap() > 0 {
				l = append(l, area{v.Pointer(), v.Pointer() + uintptr(v.Cap())*v.Type().Elem().Size(), what})
			}
			for i := range v.Len() {
				add(v.Index(i), fmt.Sprintf("%s[%d]", what, i))
			}
		case reflect.Struct:
			for i := range v.NumField() {
				add(v.Field(i), what+"."+v.Type().Field(i).Name)
			}
		}
	}
	add(reflect.ValueOf(v), reflect.TypeOf(v).String())
	return l
}

// apart checks that no parts of results share memory, with each other or with
// arguments.
func apart(t *testing.T, arguments []any, results []any) {
	t.Helper()
	var all, others []area
	for _, v := range arguments {
		others = append(others, areas(v)...)
	}
	for _, v := range results {
		all = append(all, areas(v)...)
	}
	slices.SortFunc(all, func(a, b area) int { return cmp.Compare(a.from, b.from) })
	for i, a := range all {
		if i > 0 && all[i-1].meets(a) {
			t.Errorf("%s and %s share memory", all[i-1].what, a.what)
		}
		for _, b := range others {
			if a.meets(b) {
				t.Errorf("%s shares memory with the argument %s", a.what, b.what)
			}
		}
	}
}

// project is a set with longer names, with something of everything.
func project(t *testing.T) api.Set {
	t.Helper()
	const body = `message Message{repeated Inner first_field=1[json_name="firstKey"];map<string,Enum>second_field=2;map<int32,Inner>other_map=10;oneof first_oneof{Message third_field=3;Enum fourth_field=4;}message Inner{string inner_field=1;}reserved 5,7 to 9;reserved"sixth_field","fifth_field";}enum Enum{ZERO=0;NEGATIVE=-1;reserved 7 to max,5;reserved"SIXTH","FIFTH";}service Service{rpc FirstCall(Message)returns(Message.Inner);rpc SecondCall(Message)returns(Message);}`
	return built(t,
		`lib/a.proto:package pack.age;import public"lib/b.proto";import"lib/c.proto";`+body,
		"lib/b.proto:"+body,
		"lib/c.proto:package pack.age.other;"+body)
}

// P10.3: bytes and sets share no memory with arguments, nor within themselves, nor do
// those of two calls.
func TestResultsAreNewMemory(t *testing.T) {
	s := project(t)
	first, e := descpb.Encode(s)
	second, _ := descpb.Encode(s)
	if e != api.OK || len(first) < 1000 {
		t.Fatal(e, len(first))
	}
	apart(t, []any{s}, []any{first, second})
	one, e := descpb.Decode(first)
	two, _ := descpb.Decode(first)
	if e != api.OK || len(areas(one)) < 100 {
		t.Fatal(e, len(areas(one)))
	}
	apart(t, []any{first}, []any{one, two})
}

// withRoom is a value with room behind each of its lists, in which there is
// something, and all these lists with what is behind them.
func withRoom(v reflect.Value, all *[]reflect.Value) {
	switch v.Kind() {
	case reflect.Struct:
		for i := range v.NumField() {
			withRoom(v.Field(i), all)
		}
	case reflect.Slice:
		n := v.Len()
		more := reflect.MakeSlice(v.Type(), n+2, n+2)
		reflect.Copy(more, v)
		for i := range n {
			withRoom(more.Index(i), all)
		}
		for i := range 2 {
			fill(more.Index(n + i))
		}
		*all = append(*all, more)
		v.Set(more.Slice(0, n))
	}
}

// fill puts something in each part of a value that is no list.
func fill(v reflect.Value) {
	switch v.Kind() {
	case reflect.String:
		v.SetString("behind")
	case reflect.Int:
		v.SetInt(7)
	case reflect.Uint8:
		v.SetUint(7)
	case reflect.Struct:
		for i := range v.NumField() {
			fill(v.Field(i))
		}
	case reflect.Array:
		for i := range v.Len() {
			fill(v.Index(i))
		}
	}
}

// onlyReads checks that a call changes nothing in a value, nor behind its lists.
func onlyReads(t *testing.T, v any, call func()) {
	t.Helper()
	var lists []reflect.Value
	withRoom(reflect.ValueOf(v).Elem(), &lists)
	all := func() (s string) {
		for _, l := range lists {
			s += fmt.Sprintf("%+v\n", l)
		}
		return s
	}
	before := all()
	call()
	if now := all(); now != before {
		t.Errorf("%s\nbecame\n%s", before, now)
	}
}

// P10.3: arguments are only read, with what is behind all of their lists, whether
// they are valid or not.
func TestArgumentsAreOnlyRead(t *testing.T) {
	r := rand.New(rand.NewSource(11))
	for i := range 300 {
		s := project(t)
		if i%2 == 0 {
			s = build.Copy(randomSet(r))
		}
		b := written(secondText(s))
		if i%3 == 0 {
			spoil(r, &s)
			b[r.Intn(len(b))]++
		}
		onlyReads(t, &s, func() { descpb.Encode(s) })
		onlyReads(t, &b, func() { descpb.Decode(b) })
	}
}

// ruin changes all of a value, with all that it shares.
func ruin(v reflect.Value) {
	switch v.Kind() {
	case reflect.Struct:
		for i := range v.NumField() {
			ruin(v.Field(i))
		}
	case reflect.Slice:
		v = v.Slice(0, v.Cap())
		for i := range v.Len() {
			ruin(v.Index(i))
		}
	case reflect.Array:
		for i := range v.Len() {
			ruin(v.Index(i))
		}
	case reflect.String:
		v.SetString("ruined")
	case reflect.Int:
		v.SetInt(-77)
	case reflect.Uint8:
		v.SetUint(0xEE)
	case reflect.Bool:
		v.SetBool(!v.Bool())
	}
}

// P10.3: a result that is changed changes no later result and no argument.
func TestChangedResults(t *testing.T) {
	s := project(t)
	want := written(secondText(s))
	argument := slices.Clone(want)
	for range 3 {
		b, _ := descpb.Encode(s)
		set, _ := descpb.Decode(argument)
		if !bytes.Equal(b, want) || !deepEqual(set, s) || !deepEqual(s, project(t)) || !bytes.Equal(argument, want) {
			t.Errorf("%x\n%+v\n%+v\n%x", b, set, s, argument)
		}
		ruin(reflect.ValueOf(&b).Elem())
		ruin(reflect.ValueOf(&set).Elem())
	}
	if !deepEqual(s, project(t)) || !bytes.Equal(argument, want) {
		t.Errorf("%+v\n%x", s, argument)
	}
}

// P10.3: an argument that is changed changes no earlier result; later ones are those
// of the argument as it is then.
func TestChangedArguments(t *testing.T) {
	s := project(t)
	want := written(secondText(s))
	b, _ := descpb.Encode(s)
	argument := slices.Clone(want)
	set, _ := descpb.Decode(argument)
	ruin(reflect.ValueOf(&s).Elem())
	ruin(reflect.ValueOf(&argument).Elem())
	if !bytes.Equal(b, want) || !deepEqual(set, project(t)) {
		t.Errorf("%x\n%+v", b, set)
	}
	s = built(t, "a:message M{int32 a=1;}")
	descpb.Encode(s)
	s.Msgs[0].Fields[0].Num = 2
	is(t, s, written(`1{1"a" 4{1"M" 2{1"a" 3:2 4:1 5:5 10"a"}} 12"proto3"}`))
	small := written(`1{1"a" 12"proto3"}`)
	descpb.Decode(small)
	small[4] = 'b'
	is(t, api.Set{Files: []api.File{{Path: "b"}}}, small)
	small[12]++
	refuses(t, "proto4", small)
}

// results is the results of calls for a random set and for random bytes, as a text
// that can be compared.
func results(seed int64) string {
	r := rand.New(rand.NewSource(seed))
	s := build.Copy(randomSet(r))
	b, e := descpb.Encode(s)
	again, eAgain := descpb.Decode(b)
	text := fmt.Sprintf("%x %d %+v %d", b, e, again, eAgain)
	b[r.Intn(len(b))] ^= 1 << r.Intn(8)
	again, eAgain = descpb.Decode(b)
	spoil(r, &s)
	b, e = descpb.Encode(s)
	return text + fmt.Sprintf("%x %d %+v %d", b, e, again, eAgain)
}

// R2: a call returns the same again, after other calls and beside them.
func TestSameResultAgain(t *testing.T) {
	t.Parallel()
	const count = 100
	var all []string
	for seed := range int64(count) {
		all = append(all, results(seed))
	}
	s := project(t)
	b, _ := descpb.Encode(s)
	var wait sync.WaitGroup
	for range 4 {
		wait.Go(func() {
			for seed := range int64(count) {
				again, _ := descpb.Encode(s)
				set, _ := descpb.Decode(b)
				if results(seed) != all[seed] || !bytes.Equal(again, b) || !build.Same(set, s) {
					t.Errorf("another result for %d", seed)
				}
			}
		})
	}
	wait.Wait()
}

// R1: no call panics, whatever it is given, and each one ends.
func TestNoPanic(t *testing.T) {
	t.Parallel()
	r := rand.New(rand.NewSource(12))
	for range 1000 {
		s := build.Copy(randomSet(r))
		for range 1 + r.Intn(40) {
			spoil(r, &s)
		}
		if b, e := descpb.Encode(s); e != build.Check(s) || e != api.OK && len(b) > 0 {
			t.Errorf("%d, %x of %+v", e, b, s)
		}
	}
	for range 20000 {
		b := make([]byte, r.Intn(60))
		r.Read(b)
		decodesAs(t, "random bytes", b)
		// Records of small numbers, which are parts as often as not.
		for i := range b {
			b[i] = pick(r, []byte{0x0a, 0x12, 0x1a, 0x22, 0x2a, 0x32, 0x3a, 0x42, 0x4a, 0x52, 0x62, 0x08, 0x10, 0x18, 0x20, 0x28, 0x50, 0, 1, 2, 3, 4, 'a'})
		}
		decodesAs(t, "random records", b)
	}
	descpb.Encode(api.Set{})
	descpb.Decode(nil)
}
