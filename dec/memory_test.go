package dec_test

import (
	"cmp"
	"fmt"
	"math/rand"
	"reflect"
	"slices"
	"strings"
	"sync"
	"testing"
	"unsafe"

	"signetry/api"
	"signetry/build"
	"signetry/dec"
	"signetry/value"
)

// deepEqual tells whether values are equal but for lists that are nil or empty.
func deepEqual(a, b any) bool {
	all := func(v any) string { return strings.ReplaceAll(fmt.Sprintf("%#v", v), "(nil)", "{}") }
	return all(a) == all(b)
}

// area is memory, from one address up to another, and what is there.
type area struct {
	from, to uintptr
	what     string
	isText   bool
}

func (a area) meets(b area) bool {
	return a.from < b.to && b.from < a.to
}

// areas is the memory of all strings and lists in a value, with the unused
// capacity of the lists. Strings of one byte are left out, as all of them are at
// the same places.
func areas(v any) (l []area) {
	var add func(v reflect.Value, what string)
	add = func(v reflect.Value, what string) {
		switch v.Kind() {
		case reflect.String:
			if s := v.String(); len(s) > 1 {
				from := uintptr(unsafe.Pointer(unsafe.StringData(s)))
				l = append(l, area{from, from + uintptr(len(s)), what + " " + s[:min(len(s), 30)], true})
			}
		case reflect.Slice:
			if v.Cap() > 0 {
				l = append(l, area{v.Pointer(), v.Pointer() + uintptr(v.Cap())*v.Type().Elem().Size(), what, false})
			}
			for i := range v.Len() {
				add(v.Index(i), fmt.Sprintf("%s[%d]", what, i))
			}
		case reflect.Struct:
			for i := range v.NumField() {
				add(v.Field(i), what+"."+v.Type().Field(i).Name)
			}
		}
	}
	add(reflect.ValueOf(v), reflect.TypeOf(v).String())
	return l
}

// apart checks that no parts of results share memory with arguments, nor lists in
// results with each other. (Values of one message share its name, which nobody can
// change.)
func apart(t *testing.T, arguments []any, results []any) {
	t.Helper()
	var all, lists, others []area
	for _, v := range arguments {
		others = append(others, areas(v)...)
	}
	for _, v := range results {
		all = append(all, areas(v)...)
	}
	for _, a := range all {
		if !a.isText {
			lists = append(lists, a)
		}
		for _, b := range others {
			if a.meets(b) {
				t.Errorf("%s shares memory with the argument %s", a.what, b.what)
			}
		}
	}
	slices.SortFunc(lists, func(a, b area) int { return cmp.Compare(a.from, b.from) })
	for i, a := range lists {
		if i > 0 && lists[i-1].meets(a) {
			t.Errorf("%s and %s share memory", lists[i-1].what, a.what)
		}
	}
}

// projectSet is a set whose message project is.
func projectSet(t *testing.T) api.Set {
	t.Helper()
	return built(t, "a:package pack.age;message Message{int32 first=1;repeated bytes second=2;map<string,Message>third=3;repeated float fourth=4;bytes fifth=5;oneof o{Message sixth=7;string last=9;}repeated Message seventh=8;}")
}

// project is a value with longer names and bytes, with something of everything.
func project() api.Val {
	const name = "pack.age.Message"
	inner := msg(name, slot(2, str("first bytes"), str("second bytes")))
	return msg(name,
		slot(1, num(-5)),
		slot(2, str("first bytes"), str(""), str("second bytes")),
		slot(3, entry(str("first key"), inner), entry(str("second key"), inner)),
		slot(4, f32(1), f32(2)),
		slot(5, str("only bytes")),
		slot(7, msg(name, slot(8, inner, inner), slot(9, str("last bytes")))))
}

// projectBytes is bytes of it, with unknown records.
func projectBytes(t *testing.T) []byte {
	t.Helper()
	s, v := projectSet(t), project()
	return slices.Concat(record(10, []byte("unknown bytes")), encoded(t, s, v.Name, v, nil), raw("0d01000000"), record(100, []byte("more of them")))
}

// projectMess is what these are read as.
func projectMess(t *testing.T) api.Mess {
	t.Helper()
	return messOf(t, project(), record(10, []byte("unknown bytes")), raw("0d01000000"), record(100, []byte("more of them")))
}

// P13.3: results share no memory with arguments, nor do those of two calls.
func TestResultsAreNewMemory(t *testing.T) {
	s, b := projectSet(t), projectBytes(t)
	name := strings.Clone("pack.age.Message")
	// With entries that are replaced and inserted, and a message that is read in parts.
	b = append(b, encoded(t, s, name, msg(name, slot(3, entry(str("a key"), msg(name)), entry(str("first key"), msg(name, slot(5, str("other bytes")))))), nil)...)
	b = append(b, encoded(t, s, name, msg(name, slot(7, msg(name, slot(5, str("added bytes"))))), nil)...)
	var results []any
	for range 2 {
		m := must(t, s, name, b)
		if len(m.Unknown) != 3 || len(m.V.F) != 6 || len(m.V.F[2].L) != 3 {
			t.Fatal(said(m))
		}
		results = append(results, m)
	}
	apart(t, []any{s, b, name}, results)
	eachRandom(t, 61, 300, func(r *rand.Rand, s api.Set, name string, v api.Val) {
		b := encoded(t, s, name, v, nil)
		b = slices.Concat(b, record(200, []byte("unknown bytes")), b)
		if m, e := dec.Decode(s, name, b); e == api.OK && len(b) < 2000 {
			apart(t, []any{s, b, name}, []any{m, must(t, s, name, b)})
		}
	})
}

// onlyReads checks that a call changes nothing in a value, nor behind its lists.
func onlyReads(t *testing.T, v any, call func()) {
	t.Helper()
	var lists []reflect.Value
	withRoom(reflect.ValueOf(v).Elem(), &lists)
	all := func() (s string) {
		for _, l := range lists {
			s += fmt.Sprintf("%+v\n", l)
		}
		return s
	}
	before := all()
	call()
	if now := all(); now != before {
		t.Errorf("%s\nbecame\n%s", before, now)
	}
}

// spoilt is a set that is changed in few places.
func spoilt(r *rand.Rand, s api.Set) api.Set {
	s = build.Copy(s)
	for range 1 + r.Intn(5) {
		change(r, pick(r, parts(reflect.ValueOf(&s).Elem())))
	}
	return s
}

// P13.3: arguments are only read, with what is behind all of their lists, whether they
// are valid or not.
func TestArgumentsAreOnlyRead(t *testing.T) {
	t.Parallel()
	r := rand.New(rand.NewSource(62))
	for i := range 400 {
		s := randomSet(t, r)
		x := pick(r, s.Msgs)
		b := wild(r, s, x.Fields, 5)
		if i%4 == 0 {
			s = spoilt(r, s)
		}
		call := func() { dec.Decode(s, x.Name, b) }
		onlyReads(t, &b, call)
		onlyReads(t, &s, call)
		m, n := anyMess(r), anyMess(r)
		if i%2 == 0 {
			n = copyOf(m)
		}
		same := func() { dec.SameMess(m, n) }
		onlyReads(t, &m, same)
		onlyReads(t, &n, same)
	}
}

// P13.3: a result that is changed changes no later result and no argument.
func TestChangedResults(t *testing.T) {
	s, b := projectSet(t), projectBytes(t)
	for range 3 {
		m, n := must(t, s, "pack.age.Message", b), must(t, s, "pack.age.Message", b)
		isMess(t, b, m, projectMess(t))
		ruin(reflect.ValueOf(&m).Elem())
		isMess(t, b, n, projectMess(t))
		if !slices.Equal(b, projectBytes(t)) || !build.Same(s, projectSet(t)) {
			t.Fatal("an argument is another one")
		}
	}
}

// P13.3: an argument that is changed changes no earlier result; later ones are those of
// the argument as it is then.
func TestChangedArguments(t *testing.T) {
	s, b := projectSet(t), projectBytes(t)
	m := must(t, s, "pack.age.Message", b)
	for _, x := range []any{&s, &b} {
		ruin(reflect.ValueOf(x).Elem())
	}
	isMess(t, nil, m, projectMess(t))
	refuses(t, s, "pack.age.Message", projectBytes(t), api.ErrArg)
	s, b = projectSet(t), projectBytes(t)
	reads(t, s, "pack.age.Message", raw("0801"), msg("pack.age.Message", slot(1, num(1))))
	s.Msgs[0].Fields[0].Type = api.TSint32
	reads(t, s, "pack.age.Message", raw("0801"), msg("pack.age.Message", slot(1, num(-1))))
	s.Msgs[0].Name = "pack.age.Massage"
	refuses(t, s, "pack.age.Message", raw("0801"), api.ErrArg)
}

// results is what calls return of random arguments, as a text.
func results(t *testing.T, seed int64) string {
	r := rand.New(rand.NewSource(seed))
	s := randomSet(t, r)
	var text string
	for range 10 {
		x := pick(r, s.Msgs)
		b := wild(r, s, x.Fields, 6)
		m, e := dec.Decode(s, x.Name, b)
		text += fmt.Sprintf("%d %s\n", e, said(m))
	}
	return text
}

// R2: a call returns the same again, after other calls and beside them.
func TestSameResultAgain(t *testing.T) {
	t.Parallel()
	const count = 100
	var all []string
	for seed := range int64(count) {
		all = append(all, results(t, seed))
	}
	s, b, want := projectSet(t), projectBytes(t), projectMess(t)
	var wait sync.WaitGroup
	for range 4 {
		wait.Go(func() {
			for seed := range int64(count) {
				m, e := dec.Decode(s, "pack.age.Message", b)
				if e != api.OK || !dec.SameMess(m, want) || results(t, seed) != all[seed] {
					t.Errorf("another result for %d", seed)
				}
			}
		})
	}
	wait.Wait()
}

// R1: no call panics, whatever it is given, and each one ends.
func TestNoPanic(t *testing.T) {
	t.Parallel()
	r := rand.New(rand.NewSource(63))
	wrong := 0
	for i := range 2000 {
		s := randomSet(t, r)
		x := pick(r, s.Msgs)
		b := wild(r, s, x.Fields, 5)
		switch i % 4 {
		case 0:
			r.Read(b)
		case 1:
			b = mutated(r, b)
		case 2:
			s = spoilt(r, s)
		}
		for _, name := range []string{x.Name, pick(r, []string{"", "M", "p.M", "p.N", "\xff"})} {
			m, e := dec.Decode(s, name, b)
			if e != api.OK && !reflect.DeepEqual(m, api.Mess{}) {
				t.Errorf("%d and %s", e, said(m))
			}
			if e == api.OK && value.Check(s, name, m.V) != api.OK {
				t.Errorf("%s is no value", said(m))
			}
		}
		if build.Check(s) != api.OK {
			wrong++
			refuses(t, s, x.Name, b, api.ErrArg)
		}
		dec.SameMess(anyMess(r), anyMess(r))
	}
	if wrong < 250 {
		t.Errorf("only %d sets are not valid", wrong)
	}
	refuses(t, api.Set{}, "", nil, api.ErrName)
	same(t, api.Mess{}, api.Mess{}, true)
}

// R1: values that are nested as deeply as values may be at all.
func TestDeepestValues(t *testing.T) {
	const deep = 1<<16 - 1
	v, w := nest(deep, "M", 2), nest(deep, "M", 2)
	same(t, api.Mess{V: v}, api.Mess{V: w}, true)
	same(t, api.Mess{V: v}, api.Mess{V: nest(deep-1, "M", 2)}, false)
	same(t, messOf(t, v, raw("0801")), messOf(t, w, raw("0801")), true)
}
