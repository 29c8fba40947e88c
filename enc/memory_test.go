package enc_test

import (
	"cmp"
	"fmt"
	"math/rand"
	"reflect"
	"slices"
	"strings"
	"sync"
	"testing"
	"unsafe"

	"signetry/api"
	"signetry/build"
	"signetry/enc"
	"signetry/value"
)

// area is memory, from one address up to another, and what is there.
type area struct {
	from, to uintptr
	what     string
}

func (a area) meets(b area) bool {
	return a.from < b.to && b.from < a.to
}

// areas is the memory of all strings and lists in a value, with the unused
// capacity of the lists. Strings of one byte are left out, as all of them are at
// the same places.
func areas(v any) (l []area) {
	var add func(v reflect.Value, what string)
	add = func(v reflect.Value, what string) {
		switch v.Kind() {
		case reflect.String:
			if s := v.String(); len(s) > 1 {
				from := uintptr(unsafe.Pointer(unsafe.StringData(s)))
				l = append(l, area{from, from + uintptr(len(s)), what + " " + s[:min(len(s), 30)]})
			}
		case reflect.Slice:
			if v.Cap() > 0 {
				l = append(l, area{v.Pointer(), v.Pointer() + uintptr(v.Cap())*v.Type().Elem().Size(), what})
			}
			for i := range v.Len() {
				add(v.Index(i), fmt.Sprintf("%s[%d]", what, i))
			}
		case reflect.Struct:
			for i := range v.NumField() {
				add(v.Field(i), what+"."+v.Type().Field(i).Name)
			}
		}
	}
	add(reflect.ValueOf(v), reflect.TypeOf(v).String())
	return l
}

// apart checks that no parts of results share memory, with each other or with
// arguments.
func apart(t *testing.T, arguments []any, results []any) {
	t.Helper()
	var all, others []area
	for _, v := range arguments {
		others = append(others, areas(v)...)
	}
	for _, v := range results {
		all = append(all, areas(v)...)
	}
	slices.SortFunc(all, func(a, b area) int { return cmp.Compare(a.from, b.from) })
	for i, a := range all {
		if i > 0 && all[i-1].meets(a) {
			t.Errorf("%s and %s share memory", all[i-1].what, a.what)
		}
		for _, b := range others {
			if a.meets(b) {
				t.Errorf("%s shares memory with the argument %s", a.what, b.what)
			}
		}
	}
}

// projectSet is a set whose message project is.
func projectSet(t *testing.T) api.Set {
	t.Helper()
	return built(t, "a:package pack.age;message Message{int32 first=1;repeated bytes second=2;map<string,Message>third=3;repeated float fourth=4;bytes fifth=5;Message sixth=7;repeated Message seventh=8;}")
}

// project is a value with longer names and bytes, with something of everything.
func project() api.Val {
	name := func() string { return strings.Clone("pack.age.Message") }
	inner := func() api.Val { return msg(name(), slot(2, str("first bytes"), str("second bytes"))) }
	return msg(name(),
		slot(1, num(-5)),
		slot(2, str("first bytes"), str(""), str("second bytes")),
		slot(3, entry(str("first key"), inner()), entry(str("second key"), inner())),
		slot(4, f32(1), f32(2)),
		slot(5, str("only bytes")),
		slot(7, msg(name(), slot(7, inner()), slot(8, inner(), inner()))))
}

// P12.3: results share no memory with arguments, nor do those of two calls.
func TestResultsAreNewMemory(t *testing.T) {
	s, v := projectSet(t), project()
	order := []int{7, 5, 4, 3, 2, 1}
	var results []any
	for range 2 {
		results = append(results, enc.Rising(v), must(t, s, v.Name, v, nil), must(t, s, v.Name, v, order))
		for _, x := range v.F {
			b, e := enc.Records(s, fieldOf(t, s, v.Name, x.Num), x.L)
			if e != api.OK || len(b) == 0 {
				t.Errorf("%d, %d bytes", e, len(b))
			}
			results = append(results, b, must(t, s, v.Name, msg(v.Name, x), nil))
		}
	}
	apart(t, []any{s, v, order}, results)
}

// onlyReads checks that a call changes nothing in a value, nor behind its lists.
func onlyReads(t *testing.T, v any, call func()) {
	t.Helper()
	var lists []reflect.Value
	withRoom(reflect.ValueOf(v).Elem(), &lists)
	all := func() (s string) {
		for _, l := range lists {
			s += fmt.Sprintf("%+v\n", l)
		}
		return s
	}
	before := all()
	call()
	if now := all(); now != before {
		t.Errorf("%s\nbecame\n%s", before, now)
	}
}

// callAll calls all that the package has.
func callAll(s api.Set, name string, f api.Field, v api.Val, l []api.Val, order []int) {
	enc.Encode(s, name, v, order)
	enc.Encode(s, name, v, nil)
	enc.Records(s, f, l)
	enc.Rising(v)
	for _, m := range s.Msgs {
		for _, f := range m.Fields {
			enc.Records(s, f, l)
			enc.Records(s, f, value.Get(v, f.Num))
		}
	}
}

// spoilt is a set that is changed in few places.
func spoilt(r *rand.Rand, s api.Set) api.Set {
	s = build.Copy(s)
	for range 1 + r.Intn(5) {
		change(r, pick(r, parts(reflect.ValueOf(&s).Elem())))
	}
	return s
}

// fieldsOfAll is a field of each type and card, and of each type with keys of each
// type.
func fieldsOfAll() (l []api.Field) {
	for typ := 1; typ <= 18; typ++ {
		for _, card := range []int{api.One, api.Opt, api.Rep} {
			l = append(l, plain(typ, card))
		}
		for _, key := range keyTypes {
			l = append(l, mapOf(key, typ))
		}
	}
	return l
}

// P12.3: arguments are only read, with what is behind all of their lists, whether they
// are valid or not.
func TestArgumentsAreOnlyRead(t *testing.T) {
	t.Parallel()
	r := rand.New(rand.NewSource(12))
	for i := range 300 {
		s := randomSet(t, r)
		m := pick(r, s.Msgs)
		v := value.Copy(valueOf(r, s, m.Name, 6))
		var f api.Field
		var l []api.Val
		if len(m.Fields) > 0 {
			f = pick(r, m.Fields)
			l = value.Copy(msg("", slot(1, listOf(r, s, f, 6)...))).F[0].L
		}
		if i%3 == 0 {
			v, l = anything(r, 4), anyList(r, 4)
		}
		if i%4 == 0 {
			s = spoilt(r, s)
		}
		order := shuffled(r, v)
		call := func() { callAll(s, m.Name, f, v, l, order) }
		onlyReads(t, &v, call)
		onlyReads(t, &l, call)
		onlyReads(t, &order, call)
		onlyReads(t, &s, call)
	}
}

// P12.3: a result that is changed changes no later result and no argument.
func TestChangedResults(t *testing.T) {
	s, v, order := projectSet(t), project(), []int{7, 5, 4, 3, 2, 1}
	f := fieldOf(t, s, v.Name, 5)
	for range 3 {
		rising, falling, numbers := must(t, s, v.Name, v, nil), must(t, s, v.Name, v, order), enc.Rising(v)
		records, e := enc.Records(s, f, v.F[4].L)
		is(t, "rising", rising, []byte(secondBytes(projectSet(t), v.Name, project(), nil)))
		is(t, "falling", falling, []byte(secondBytes(projectSet(t), v.Name, project(), []int{7, 5, 4, 3, 2, 1})))
		is(t, "records", records, append(raw("2a0a"), "only bytes"...))
		if e != api.OK || !slices.Equal(numbers, []int{1, 2, 3, 4, 5, 7}) {
			t.Errorf("%d, %v", e, numbers)
		}
		for _, x := range []any{&rising, &falling, &records, &numbers} {
			ruin(reflect.ValueOf(x).Elem())
		}
		if !value.Same(v, project()) || !build.Same(s, projectSet(t)) || !slices.Equal(order, []int{7, 5, 4, 3, 2, 1}) {
			t.Fatal("an argument is another one")
		}
	}
}

// P12.3: an argument that is changed changes no earlier result; later ones are those of
// the argument as it is then.
func TestChangedArguments(t *testing.T) {
	s, v, order := projectSet(t), project(), []int{7, 5, 4, 3, 2, 1}
	f := fieldOf(t, s, v.Name, 5)
	falling, numbers := must(t, s, v.Name, v, order), enc.Rising(v)
	records, _ := enc.Records(s, f, v.F[4].L)
	for _, x := range []any{&s, &v, &order} {
		ruin(reflect.ValueOf(x).Elem())
	}
	is(t, "falling", falling, []byte(secondBytes(projectSet(t), "pack.age.Message", project(), []int{7, 5, 4, 3, 2, 1})))
	is(t, "records", records, append(raw("2a0a"), "only bytes"...))
	if !slices.Equal(numbers, []int{1, 2, 3, 4, 5, 7}) {
		t.Error(numbers)
	}
	refuses(t, s, "pack.age.Message", project(), nil, api.ErrArg)
	s, v = projectSet(t), project()
	v.F[4].L[0].B[0] = 'O'
	lists(t, s, f, append(raw("2a0a"), "Only bytes"...), v.F[4].L...)
	v.F[0].L[0].Mag = 6
	writes(t, s, v.Name, v, nil, []byte(secondBytes(s, v.Name, v, nil)))
	v.F[0].L[0].Mag = 0
	refuses(t, s, v.Name, v, nil, api.ErrType)
}

// results is what all calls return of random arguments, as a text.
func results(t *testing.T, seed int64) string {
	r := rand.New(rand.NewSource(seed))
	s := randomSet(t, r)
	name := pick(r, s.Msgs).Name
	v, w := valueOf(r, s, name, 6), anything(r, 4)
	var text string
	for _, x := range []api.Val{v, w} {
		for _, order := range [][]int{nil, shuffled(r, x), {1}} {
			b, e := enc.Encode(s, name, x, order)
			text += fmt.Sprintf("%x %d ", b, e)
		}
		text += fmt.Sprint(enc.Rising(x))
	}
	m, _ := build.Msg(s, name)
	for _, f := range m.Fields {
		b, e := enc.Records(s, f, listOf(r, s, f, 6))
		text += fmt.Sprintf("%x %d ", b, e)
	}
	return text
}

// R2: a call returns the same again, after other calls and beside them.
func TestSameResultAgain(t *testing.T) {
	t.Parallel()
	const count = 50
	var all []string
	for seed := range int64(count) {
		all = append(all, results(t, seed))
	}
	s, v := projectSet(t), project()
	want := secondBytes(s, v.Name, v, nil)
	var wait sync.WaitGroup
	for range 4 {
		wait.Go(func() {
			for seed := range int64(count) {
				if b, e := enc.Encode(s, v.Name, v, nil); e != api.OK || string(b) != want || results(t, seed) != all[seed] {
					t.Errorf("another result for %d", seed)
				}
			}
		})
	}
	wait.Wait()
}

// R1: no call panics, whatever it is given, and each one ends.
func TestNoPanic(t *testing.T) {
	t.Parallel()
	r := rand.New(rand.NewSource(13))
	numbers := []int{0, 1, 2, 3, -1, 1<<29 - 1, 1 << 29, 1<<63 - 1, -1 << 63}
	wrong := 0
	for i := range 3000 {
		s := randomSet(t, r)
		if i%2 == 0 {
			s = spoilt(r, s)
		}
		f := otherField(r, pick(r, fieldsOfAll()))
		f.Num = pick(r, numbers)
		v, l := anything(r, 5), anyList(r, 5)
		order := []int{pick(r, numbers), pick(r, numbers)}[:r.Intn(3)]
		callAll(s, pick(r, []string{"", "M", "p.M", "p.N", "\xff"}), f, v, l, order)
		if build.Check(s) != api.OK {
			wrong++
			refuses(t, s, "p.M", v, order, api.ErrArg)
			denies(t, s, f, api.ErrArg, l...)
		}
		if i%30 == 0 {
			for _, f := range fieldsOfAll() {
				enc.Records(s, otherField(r, f), nil)
			}
		}
	}
	if wrong < 1000 {
		t.Errorf("only %d sets are not valid", wrong)
	}
	callAll(api.Set{}, "", api.Field{}, api.Val{}, nil, nil)
	callAll(api.Set{}, "", api.Field{}, api.Val{}, []api.Val{}, []int{})
}

// R1: values that are nested as deeply as values may be at all, or that stand in many
// places at once.
func TestGreatestValues(t *testing.T) {
	s := built(t, treeOf)
	const deep = 1<<16 - 1
	v := nest(deep, "M", 2)
	refuses(t, s, "M", v, nil, api.ErrLimit)
	refuses(t, s, "M", v, []int{2}, api.ErrLimit)
	denies(t, s, fieldOf(t, s, "M", 2), api.ErrType, v)
	if l := enc.Rising(v); !slices.Equal(l, []int{2}) {
		t.Error(l)
	}
	// 2^40 values, as each one stands in two places.
	v = msg("M")
	for range 40 {
		v = msg("M", slot(3, v, v))
	}
	if _, e := enc.Encode(s, "M", v, nil); e != api.ErrLimit {
		t.Error(e)
	}
	if _, e := enc.Records(s, fieldOf(t, s, "M", 3), []api.Val{v, v}); e != api.ErrType {
		t.Error(e)
	}
	if l := enc.Rising(v); !slices.Equal(l, []int{3}) {
		t.Error(l)
	}
}
