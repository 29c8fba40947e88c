package build_test

import (
	"math/rand"
	"reflect"
	"slices"
	"testing"

	"signetry/api"
	"signetry/build"
)

// withLists is a value in which all lists are nil, or empty, that have no elements.
func withLists(v reflect.Value, isNil bool) {
	switch v.Kind() {
	case reflect.Struct:
		for i := range v.NumField() {
			withLists(v.Field(i), isNil)
		}
	case reflect.Slice:
		if v.Len() == 0 && isNil {
			v.SetZero()
		} else if v.Len() == 0 {
			v.Set(reflect.MakeSlice(v.Type(), 0, 3))
		}
		for i := range v.Len() {
			withLists(v.Index(i), isNil)
		}
	}
}

// P9.2: nil and empty lists are equal, in all places.
func TestSameLists(t *testing.T) {
	one := api.Set{
		Files: []api.File{{}, {Imports: []api.Import{{}}}}, Msgs: []api.Msg{{}, {Fields: []api.Field{{}}}},
		Enums: []api.Enum{{}, {Values: []api.Value{{}}}}, Svcs: []api.Svc{{}, {Rpcs: []api.Rpc{{}}}},
	}
	for _, s := range []api.Set{{}, one, whole()} {
		a, b := build.Copy(s), build.Copy(s)
		withLists(reflect.ValueOf(&a).Elem(), true)
		withLists(reflect.ValueOf(&b).Elem(), false)
		for _, pair := range [][2]api.Set{{a, a}, {a, b}, {b, a}, {b, b}, {s, a}, {b, s}} {
			if !build.Same(pair[0], pair[1]) {
				t.Errorf("%+v is not the same as %+v", pair[0], pair[1])
			}
		}
		if e := build.Check(a); e != build.Check(b) {
			t.Errorf("%d, but %d of %+v", e, build.Check(b), s)
		}
		for _, m := range [][2]api.Set{{a, build.Copy(b)}, {b, build.Copy(a)}} {
			if !build.Same(m[0], m[1]) {
				t.Errorf("%+v is not the same as %+v", m[0], m[1])
			}
		}
	}
}

// P9.2: each number, text and bool counts, and each element of a list, also in
// sets that are not valid.
func TestSameParts(t *testing.T) {
	count := 0
	for i := range parts(reflect.ValueOf(whole())) {
		s := whole()
		v := parts(reflect.ValueOf(&s).Elem())[i]
		switch v.Kind() {
		case reflect.Bool:
			v.SetBool(!v.Bool())
		case reflect.Int:
			v.SetInt(v.Int() + 1)
		case reflect.String:
			v.SetString(v.String() + "x")
		case reflect.Slice:
			v.Set(reflect.Append(v, reflect.Zero(v.Type().Elem())))
		}
		count++
		if build.Same(s, whole()) || build.Same(whole(), s) || !build.Same(s, s) {
			t.Errorf("%+v is the same", s)
		}
		if again := build.Copy(s); !build.Same(again, s) || !deepEqual(again, s) {
			t.Errorf("%+v\nis copied as\n%+v", s, again)
		}
		if v.Kind() == reflect.Slice && v.Len() > 1 {
			s = whole()
			v = parts(reflect.ValueOf(&s).Elem())[i]
			v.SetLen(v.Len() - 1)
			if build.Same(s, whole()) || build.Same(whole(), s) {
				t.Errorf("%+v is the same", s)
			}
		}
	}
	if count < 140 {
		t.Errorf("only %d parts", count)
	}
}

// P9.2: the order of each list counts.
func TestSameOrder(t *testing.T) {
	count := 0
	for i := range parts(reflect.ValueOf(whole())) {
		s := whole()
		v := parts(reflect.ValueOf(&s).Elem())[i]
		if v.Kind() != reflect.Slice || v.Len() < 2 {
			continue
		}
		count++
		reflect.Swapper(v.Interface())(0, 1)
		if build.Same(s, whole()) || build.Same(whole(), s) {
			t.Errorf("%+v is the same", s)
		}
	}
	if count < 10 {
		t.Errorf("only %d lists", count)
	}
}

// P9.2: random sets are the same if they are equal but for empty lists, and copies
// are.
func TestRandomSame(t *testing.T) {
	r := rand.New(rand.NewSource(7))
	same := 0
	for range 200 {
		l := randomSources(r)
		s, _, _ := build.Build(l, pathsOf(l))
		for range 20 {
			a, b := build.Copy(s), build.Copy(s)
			for range r.Intn(3) {
				spoil(r, &a)
			}
			for range r.Intn(2) {
				spoil(r, &b)
			}
			want := deepEqual(a, b)
			if build.Same(a, b) != want || build.Same(b, a) != want {
				t.Errorf("%+v\nand\n%+v", a, b)
			}
			if want {
				same++
			}
			if c := build.Copy(a); !deepEqual(c, a) || !build.Same(c, a) {
				t.Errorf("%+v\nis copied as\n%+v", a, c)
			}
		}
	}
	if same < 300 || same > 3700 {
		t.Errorf("%d of 4000 are the same", same)
	}
}

// P9.2: the first message, and enum, with a name.
func TestFindInSets(t *testing.T) {
	s := whole()
	for _, name := range []string{"p.M", "p.M.N", "B", "p.q.C", "p.D", "p.M.E", "p.q.F", "p.S", "", "M", ".p.M", "p", "p.M.", "C"} {
		m, found := build.Msg(s, name)
		i := slices.IndexFunc(s.Msgs, func(m api.Msg) bool { return m.Name == name })
		if found != (i >= 0) || i >= 0 && !deepEqual(m, s.Msgs[i]) || i < 0 && !deepEqual(m, api.Msg{}) {
			t.Errorf("%q: %+v, %t", name, m, found)
		}
		n, found := build.Enum(s, name)
		i = slices.IndexFunc(s.Enums, func(n api.Enum) bool { return n.Name == name })
		if found != (i >= 0) || i >= 0 && !deepEqual(n, s.Enums[i]) || i < 0 && !deepEqual(n, api.Enum{}) {
			t.Errorf("%q: %+v, %t", name, n, found)
		}
	}
	if _, found := build.Msg(api.Set{}, ""); found {
		t.Error("a message of nothing")
	}
	if _, found := build.Enum(api.Set{}, ""); found {
		t.Error("an enum of nothing")
	}
}

// P9.2: the first one in the list counts, in sets that are not valid, too.
func TestFindFirst(t *testing.T) {
	s := api.Set{
		Msgs:  []api.Msg{{Path: "1", Name: "z"}, {Path: "2", Name: ""}, {Path: "3", Name: "a"}, {Path: "4", Name: "z"}, {Path: "5", Name: ""}, {Path: "6", Name: "\xff"}},
		Enums: []api.Enum{{Path: "1", Name: "z"}, {Path: "2", Name: ""}, {Path: "3", Name: "a"}, {Path: "4", Name: "z"}, {Path: "5", Name: ""}, {Path: "6", Name: "\xff"}},
	}
	for name, path := range map[string]string{"z": "1", "": "2", "a": "3", "\xff": "6", "b": "", "Z": "", "zz": ""} {
		m, foundMsg := build.Msg(s, name)
		n, foundEnum := build.Enum(s, name)
		if m.Path != path || n.Path != path || foundMsg != (path != "") || foundEnum != (path != "") {
			t.Errorf("%q: %+v, %t, %+v, %t", name, m, foundMsg, n, foundEnum)
		}
	}
}

// P9.2: the first field with a number, and with a key, which is not its name.
func TestFindFields(t *testing.T) {
	m := api.Msg{Fields: []api.Field{
		{Name: "a", Json: "b", Num: 5, Type: 1}, {Name: "b", Json: "a", Num: 3, Type: 2}, {Name: "c", Json: "b", Num: 3, Type: 3}, {Name: "d", Json: "", Num: 0, Type: 4},
		{Name: "e", Json: "", Num: -1 << 63, Type: 5}, {Name: "f", Json: "a", Num: 5, Type: 6}, {Name: "g", Json: "\xff", Num: 1<<63 - 1, Type: 7},
	}}
	for n, want := range map[int]int{5: 1, 3: 2, 0: 4, -1 << 63: 5, 1<<63 - 1: 7, 1: 0, -5: 0, 1<<32 + 5: 0} {
		x, found := build.Field(m, n)
		if x.Type != want || found != (want != 0) || !found && x != (api.Field{}) || found && x != m.Fields[want-1] {
			t.Errorf("%d: %+v, %t", n, x, found)
		}
	}
	for key, want := range map[string]int{"b": 1, "a": 2, "": 4, "\xff": 7, "c": 0, "d": 0, "B": 0, "a ": 0} {
		x, found := build.ByKey(m, key)
		if x.Type != want || found != (want != 0) || !found && x != (api.Field{}) || found && x != m.Fields[want-1] {
			t.Errorf("%q: %+v, %t", key, x, found)
		}
	}
	if x, found := build.Field(api.Msg{}, 0); found || x != (api.Field{}) {
		t.Errorf("%+v", x)
	}
	if x, found := build.ByKey(api.Msg{}, ""); found || x != (api.Field{}) {
		t.Errorf("%+v", x)
	}
}

// P9.2: all fields of random messages are found by their numbers and by their
// keys.
func TestFindRandomFields(t *testing.T) {
	r := rand.New(rand.NewSource(8))
	count := 0
	for range 100 {
		l := randomSources(r)
		s, _, _ := build.Build(l, pathsOf(l))
		for _, want := range s.Msgs {
			m, found := build.Msg(s, want.Name)
			if !found || !deepEqual(m, want) {
				t.Errorf("%+v, want %+v", m, want)
			}
			for _, x := range m.Fields {
				count++
				byNum, isNum := build.Field(m, x.Num)
				byKey, isKey := build.ByKey(m, x.Json)
				if !isNum || !isKey || byNum != x || byKey != x {
					t.Errorf("%+v: %+v, %+v", x, byNum, byKey)
				}
			}
		}
	}
	if count < 1000 {
		t.Errorf("only %d fields", count)
	}
}
