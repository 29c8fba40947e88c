package value_test

import (
	"cmp"
	"fmt"
	"math/rand"
	"reflect"
	"slices"
	"strings"
	"sync"
	"testing"
	"unsafe"

	"signetry/api"
	"signetry/build"
	"signetry/value"
)

// area is memory, from one address up to another, and what is there.
type area struct {
	from, to uintptr
	what     string
}

func (a area) meets(b area) bool {
	return a.from < b.to && b.from < a.to
}

// areas is the memory of all strings and lists in a value, with the unused
// capacity of the lists. Strings of one byte are left out, as all of them are at
// the same places.
func areas(v any) (l []area) {
	var add func(v reflect.Value, what string)
	add = func(v reflect.Value, what string) {
		switch v.Kind() {
		case reflect.String:
			if s := v.String(); len(s) > 1 {
				from := uintptr(unsafe.Pointer(unsafe.StringData(s)))
				l = append(l, area{from, from + uintptr(len(s)), what + " " + s[:min(len(s), 30)]})
			}
		case reflect.Slice:
			if v.Cap() > 0 {
				l = append(l, area{v.Pointer(), v.Pointer() + uintptr(v.Cap())*v.Type().Elem().Size(), what})
			}
			for i := range v.Len() {
				add(v.Index(i), fmt.Sprintf("%s[%d]", what, i))
			}
		case reflect.Struct:
			for i := range v.NumField() {
				add(v.Field(i), what+"."+v.Type().Field(i).Name)
			}
		}
	}
	add(reflect.ValueOf(v), reflect.TypeOf(v).String())
	return l
}

// apart checks that no parts of results share memory, with each other or with
// arguments.
func apart(t *testing.T, arguments []any, results []any) {
	t.Helper()
	var all, others []area
	for _, v := range arguments {
		others = append(others, areas(v)...)
	}
	for _, v := range results {
		all = append(all, areas(v)...)
	}
	slices.SortFunc(all, func(a, b area) int { return cmp.Compare(a.from, b.from) })
	for i, a := range all {
		if i > 0 && all[i-1].meets(a) {
			t.Errorf("%s and %s share memory", all[i-1].what, a.what)
		}
		for _, b := range others {
			if a.meets(b) {
				t.Errorf("%s shares memory with the argument %s", a.what, b.what)
			}
		}
	}
}

// project is a value with longer names and bytes, with something of everything, whose
// strings are at places of their own.
func project() api.Val {
	name := func() string { return strings.Clone("pack.age.Message") }
	inner := func() api.Val { return msg(name(), slot(2, str("first bytes"), str("second bytes"))) }
	return msg(name(),
		slot(1, num(-5)),
		slot(2, str("first bytes"), str(""), str("second bytes")),
		slot(3, entry(str("first key"), inner()), entry(str("second key"), inner())),
		slot(4, f32(1), f32(2)),
		slot(7, msg(name(), slot(7, inner()), slot(8, inner(), inner()))))
}

// projectSet is a set whose message project is.
func projectSet(t *testing.T) api.Set {
	t.Helper()
	return built(t, "a:package pack.age;message Message{int32 first=1;repeated bytes second=2;map<string,Message>third=3;repeated float fourth=4;Message fifth=7;repeated Message sixth=8;}")
}

// P11.4: results share no memory with arguments, nor within themselves, nor do those
// of two calls.
func TestResultsAreNewMemory(t *testing.T) {
	v, l := project(), []api.Val{project(), str("some bytes")}
	checks(t, projectSet(t), "pack.age.Message", v, api.OK)
	if len(areas(v)) < 40 {
		t.Fatal(len(areas(v)))
	}
	var results []any
	for range 2 {
		results = append(results, value.Copy(v), value.Put(v, 100, nil))
		for n := -1; n < 10; n++ {
			results = append(results, value.Get(v, n), value.Put(v, n, l), value.Put(v, n, nil))
		}
	}
	apart(t, []any{v, l}, results)
	// A list of the value itself, put into it again.
	again := value.Put(v, 9, v.F[4].L)
	apart(t, []any{v}, []any{again})
	again = value.Put(v, 7, []api.Val{v, v})
	apart(t, []any{v}, []any{again})
	is(t, "itself", again.F[4].L[1], v)
}

// P11.4: what is at one place in arguments is not at one place in results.
func TestSharedArguments(t *testing.T) {
	inner := project()
	v := msg(inner.Name, slot(1, inner, inner), slot(2, inner), slot(3, inner.F[0].L...), slot(4, inner.F[0].L...))
	apart(t, []any{v}, []any{value.Copy(v)})
	apart(t, []any{v}, []any{value.Get(v, 1), value.Get(v, 3), value.Get(v, 4)})
	apart(t, []any{v}, []any{value.Put(v, 2, v.F[0].L), value.Put(v, 2, v.F[0].L[:1])})
}

// withRoom is a value with room behind each of its lists, in which there is
// something, and all these lists with what is behind them.
func withRoom(v reflect.Value, all *[]reflect.Value) {
	switch v.Kind() {
	case reflect.Struct:
		for i := range v.NumField() {
			withRoom(v.Field(i), all)
		}
	case reflect.Slice:
		n := v.Len()
		more := reflect.MakeSlice(v.Type(), n+2, n+2)
		reflect.Copy(more, v)
		for i := range n {
			withRoom(more.Index(i), all)
		}
		for i := range 2 {
			fill(more.Index(n + i))
		}
		*all = append(*all, more)
		v.Set(more.Slice(0, n))
	}
}

// fill puts something in each part of a value that is no list.
func fill(v reflect.Value) {
	switch v.Kind() {
	case reflect.String:
		v.SetString("behind")
	case reflect.Int:
		v.SetInt(7)
	case reflect.Uint8, reflect.Uint64:
		v.SetUint(7)
	case reflect.Struct:
		for i := range v.NumField() {
			fill(v.Field(i))
		}
	case reflect.Array:
		for i := range v.Len() {
			fill(v.Index(i))
		}
	}
}

// onlyReads checks that a call changes nothing in a value, nor behind its lists.
func onlyReads(t *testing.T, v any, call func()) {
	t.Helper()
	var lists []reflect.Value
	withRoom(reflect.ValueOf(v).Elem(), &lists)
	all := func() (s string) {
		for _, l := range lists {
			s += fmt.Sprintf("%+v\n", l)
		}
		return s
	}
	before := all()
	call()
	if now := all(); now != before {
		t.Errorf("%s\nbecame\n%s", before, now)
	}
}

// spoilt is a set that is changed in few places.
func spoilt(r *rand.Rand, s api.Set) api.Set {
	s = build.Copy(s)
	for range 1 + r.Intn(5) {
		change(r, pick(r, parts(reflect.ValueOf(&s).Elem())))
	}
	return s
}

// callAll calls all that the package has, with these arguments in all places.
func callAll(s api.Set, name string, f api.Field, v api.Val, l []api.Val, n int) {
	value.Check(s, name, v)
	value.Denotes(s, f, l)
	value.Copy(v)
	value.IsZero(v)
	value.Size(v)
	value.Get(v, n)
	value.Put(v, n, l)
	value.Put(v, n, nil)
	for _, o := range l {
		value.Same(v, o)
		value.Less(v, o)
		value.Less(o, v)
		value.Put(o, n, l)
	}
	value.SameAll(l, l)
	if len(v.F) > 0 {
		value.SameAll(v.F[0].L, l)
		value.Put(v, n, v.F[0].L)
	}
}

// P11.4: arguments are only read, with what is behind all of their lists, whether
// they are valid or not.
func TestArgumentsAreOnlyRead(t *testing.T) {
	r := rand.New(rand.NewSource(11))
	all := fieldsOfAll()
	for i := range 300 {
		s := randomSet(t, r)
		name, f := pick(r, s.Msgs).Name, pick(r, all)
		v := value.Copy(valueOf(r, s, name, 6))
		l := value.Get(msg("", slot(1, listOf(r, typed(t, api.TInt32, 0), f, 1)...)), 1)
		if i%3 == 0 {
			v, l = anything(r, 4), anyList(r, 4)
		}
		if i%4 == 0 {
			s = spoilt(r, s)
		}
		for n := -1; n < 10; n += 3 {
			onlyReads(t, &v, func() { callAll(s, name, f, v, l, n) })
			onlyReads(t, &l, func() { callAll(s, name, f, v, l, n) })
		}
		onlyReads(t, &s, func() { callAll(s, name, f, v, l, 1) })
	}
}

// ruin changes all of a value, with all that it shares.
func ruin(v reflect.Value) {
	switch v.Kind() {
	case reflect.Struct:
		for i := range v.NumField() {
			ruin(v.Field(i))
		}
	case reflect.Slice:
		v = v.Slice(0, v.Cap())
		for i := range v.Len() {
			ruin(v.Index(i))
		}
	case reflect.Array:
		for i := range v.Len() {
			ruin(v.Index(i))
		}
	case reflect.String:
		v.SetString("ruined")
	case reflect.Int:
		v.SetInt(-77)
	case reflect.Uint8, reflect.Uint64:
		v.SetUint(0xEE)
	case reflect.Bool:
		v.SetBool(!v.Bool())
	}
}

// P11.4: a result that is changed changes no later result and no argument.
func TestChangedResults(t *testing.T) {
	v, l := project(), []api.Val{project(), str("some bytes")}
	for range 3 {
		c, got, put, more := value.Copy(v), value.Get(v, 7), value.Put(v, 7, l), value.Put(v, 5, l)
		without := value.Put(v, 7, nil)
		is(t, "copy", c, project())
		areAll(t, "got", got, project().F[4].L)
		is(t, "put", put, msg(v.Name, append(project().F[:4:4], slot(7, l...))...))
		is(t, "put", more, msg(v.Name, append(project().F[:4:4], slot(5, l...), project().F[4])...))
		is(t, "taken away", without, msg(v.Name, project().F[:4]...))
		for _, x := range []any{&c, &got, &put, &more, &without} {
			ruin(reflect.ValueOf(x).Elem())
		}
		is(t, "the value", v, project())
		areAll(t, "the list", l, []api.Val{project(), str("some bytes")})
	}
}

// P11.4: an argument that is changed changes no earlier result; later ones are those
// of the argument as it is then.
func TestChangedArguments(t *testing.T) {
	v, l, s := project(), []api.Val{str("some bytes")}, projectSet(t)
	c, got, put := value.Copy(v), value.Get(v, 2), value.Put(v, 9, l)
	checks(t, s, v.Name, v, api.OK)
	ruin(reflect.ValueOf(&v).Elem())
	ruin(reflect.ValueOf(&l).Elem())
	is(t, "copy", c, project())
	areAll(t, "got", got, project().F[1].L)
	is(t, "put", put, msg("pack.age.Message", append(project().F, slot(9, str("some bytes")))...))
	checks(t, s, "pack.age.Message", v, api.ErrType)
	v = project()
	checks(t, s, v.Name, v, api.OK)
	v.F[0].L[0].Mag = 1 << 32
	checks(t, s, v.Name, v, api.ErrType)
	v.F[0].L[0].Mag = 1
	checks(t, s, v.Name, v, api.OK)
	f := fieldOf(t, s, v.Name, 2)
	denotes(t, s, f, true, v.F[1].L...)
	v.F[1].L[0].Kind = api.KMsg
	denotes(t, s, f, false, v.F[1].L...)
	v.F[1].L[0].Kind = api.KBytes
	s.Msgs[0].Fields[0].Num = 0
	checks(t, s, v.Name, v, api.ErrArg)
	denotes(t, s, f, false, v.F[1].L...)
	s = projectSet(t)
	s.Msgs[0].Fields[0].Type = api.TUint32
	checks(t, s, v.Name, v, api.ErrType)
}

// results is the results of calls with random arguments, as a text that can be
// compared.
func results(t *testing.T, seed int64) string {
	r := rand.New(rand.NewSource(seed))
	s := randomSet(t, r)
	name := pick(r, s.Msgs).Name
	v, w := valueOf(r, s, name, 6), anything(r, 4)
	text := fmt.Sprint(value.Check(s, name, v), value.Check(s, name, w), value.Same(v, w), value.Less(v, w), value.IsZero(w))
	text += fmt.Sprintf("%#v %#v", value.Copy(v), value.Copy(w))
	for n := range 20 {
		text += fmt.Sprintf("%#v %#v", value.Get(v, n), value.Put(w, n, value.Get(v, n+1)))
	}
	for _, f := range fieldsOfAll()[:20] {
		text += fmt.Sprint(value.Denotes(s, f, listOf(r, typed(t, api.TInt32, 0), f, 1)))
	}
	many, deep := value.Size(v)
	return text + fmt.Sprint(many, deep)
}

// R2: a call returns the same again, after other calls and beside them.
func TestSameResultAgain(t *testing.T) {
	t.Parallel()
	const count = 50
	var all []string
	for seed := range int64(count) {
		all = append(all, results(t, seed))
	}
	s, v := projectSet(t), project()
	var wait sync.WaitGroup
	for range 4 {
		wait.Go(func() {
			for seed := range int64(count) {
				if results(t, seed) != all[seed] || value.Check(s, v.Name, v) != api.OK || !value.Same(value.Copy(v), v) {
					t.Errorf("another result for %d", seed)
				}
			}
		})
	}
	wait.Wait()
}

// R1: no call panics, whatever it is given, and each one ends.
func TestNoPanic(t *testing.T) {
	t.Parallel()
	r := rand.New(rand.NewSource(12))
	wrong := 0
	for i := range 3000 {
		s := randomSet(t, r)
		if i%2 == 0 {
			s = spoilt(r, s)
		}
		f := otherField(r, pick(r, fieldsOfAll()))
		v, l := anything(r, 5), anyList(r, 5)
		callAll(s, pick(r, []string{"", "M", "p.M", "p.N", "\xff"}), f, v, l, pick(r, []int{0, 1, -1, 1<<63 - 1, -1 << 63}))
		if build.Check(s) != api.OK {
			wrong++
			checks(t, s, "p.M", v, api.ErrArg)
			denotes(t, s, f, false, l...)
		}
	}
	if wrong < 1000 {
		t.Errorf("only %d sets are not valid", wrong)
	}
	callAll(api.Set{}, "", api.Field{}, api.Val{}, nil, 0)
}
