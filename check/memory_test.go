package check_test

import (
	"cmp"
	"fmt"
	"math/rand"
	"reflect"
	"slices"
	"sort"
	"strings"
	"sync"
	"testing"
	"unsafe"

	"signetry/api"
	"signetry/check"
	"signetry/print"
)

// area is memory, from one address up to another, and what is there.
type area struct {
	from, to uintptr
	what     string
}

func (a area) meets(b area) bool {
	return a.from < b.to && b.from < a.to
}

// areas is the memory of all strings and lists in a value, with the unused
// capacity of the lists. Strings of one byte are left out, as all of them are at
// the same places.
func areas(v any) (l []area) {
	var add func(v reflect.Value, what string)
	add = func(v reflect.Value, what string) {
		switch v.Kind() {
		case reflect.String:
			if s := v.String(); len(s) > 1 {
				from := uintptr(unsafe.Pointer(unsafe.StringData(s)))
				l = append(l, area{from, from + uintptr(len(s)), what + " " + s[:min(len(s), 30)]})
			}
		case reflect.Slice:
			if v.Cap() > 0 {
				l = append(l, area{v.Pointer(), v.Pointer() + uintptr(v.Cap())*v.Type().Elem().Size(), what})
			}
			for i := range v.Len() {
				add(v.Index(i), fmt.Sprintf("%s[%d]", what, i))
			}
		case reflect.Struct:
			for i := range v.NumField() {
				add(v.Field(i), what+"."+v.Type().Field(i).Name)
			}
		}
	}
	add(reflect.ValueOf(v), reflect.TypeOf(v).String())
	return l
}

// apart checks that no parts of results share memory, with each other or with
// arguments.
func apart(t *testing.T, arguments []any, results []any) {
	t.Helper()
	var all, others []area
	for _, v := range arguments {
		others = append(others, areas(v)...)
	}
	for _, v := range results {
		all = append(all, areas(v)...)
	}
	slices.SortFunc(all, func(a, b area) int { return cmp.Compare(a.from, b.from) })
	for i, a := range all {
		if i > 0 && all[i-1].meets(a) {
			t.Errorf("%s and %s share memory", all[i-1].what, a.what)
		}
		for _, b := range others {
			if a.meets(b) {
				t.Errorf("%s shares memory with the argument %s", a.what, b.what)
			}
		}
	}
}

// project is units with longer paths and names, in which everything is wrong.
func project() []api.Unit {
	const body = `message Message{repeated Unknown first_field=1[json_name="firstKey"];map<Enum,Service>first_field=19000[json_name="firstKey"];oneof first_oneof{}oneof first_oneof{}message Inner{string inner_field=1;}reserved 5,5;reserved"first_field","first_field";}enum Enum{ONE=1;ONE=1;reserved 1,1;reserved"ONE","ONE";}service Service{rpc Call(Unknown)returns(Service);rpc Call(Message)returns(Message.Inner);}`
	return units(
		`lib/a.proto: package pack.age;import public"lib/b.proto";`+body,
		"lib/b.proto: "+body,
		"lib/c.proto: package pack.age;"+body)
}

// P8.3: diagnostics share no memory with the units, nor with each other, nor do
// those of two calls.
func TestDiagnosticsAreNewMemory(t *testing.T) {
	l := project()
	all, e := check.All(l)
	if e != api.OK || len(all) < 50 {
		t.Fatal(e, allTold(all))
	}
	again, _ := check.All(l)
	first, _ := check.First(l)
	second, _ := check.First(l)
	apart(t, []any{l}, []any{all, again, first, second})
}

// P8.3: keys share no memory with the field, nor do those of two calls.
func TestKeysAreNewMemory(t *testing.T) {
	for _, f := range []api.FieldDef{
		{Name: strings.Clone("name"), Json: strings.Clone("key")},
		{Name: strings.Clone("name")},
		{Name: strings.Clone("first_name")},
		{Name: strings.Clone("_name_")},
		{Json: strings.Clone("a key")},
	} {
		apart(t, []any{f}, []any{check.Key(f), check.Key(f)})
	}
}

// withRoom is a value with room behind each of its lists, in which there is
// something, and all these lists with what is behind them.
func withRoom(v reflect.Value, all *[]reflect.Value) {
	switch v.Kind() {
	case reflect.Struct:
		for i := range v.NumField() {
			withRoom(v.Field(i), all)
		}
	case reflect.Slice:
		n := v.Len()
		more := reflect.MakeSlice(v.Type(), n+2, n+2)
		reflect.Copy(more, v)
		for i := range n {
			withRoom(more.Index(i), all)
		}
		for i := range 2 {
			fill(more.Index(n + i))
		}
		*all = append(*all, more)
		v.Set(more.Slice(0, n))
	}
}

// fill puts something in each part of a value that is no list.
func fill(v reflect.Value) {
	switch v.Kind() {
	case reflect.String:
		v.SetString("behind")
	case reflect.Int:
		v.SetInt(7)
	case reflect.Struct:
		for i := range v.NumField() {
			fill(v.Field(i))
		}
	}
}

// P8.3: units are only read, with what is behind all of their lists, whether they
// are valid or not.
func TestUnitsAreOnlyRead(t *testing.T) {
	for _, spoil := range []func(l []api.Unit){
		func(l []api.Unit) {},
		func(l []api.Unit) { l[0], l[1] = l[1], l[0] },
		func(l []api.Unit) { l[0].Tree.Imports[0].Path = "lib/d.proto" },
		func(l []api.Unit) { l[1].Tree.Msgs[0].Name = "" },
		func(l []api.Unit) { slices.Reverse(l[0].Tree.Enums[0].Values) },
	} {
		l := project()
		var lists []reflect.Value
		withRoom(reflect.ValueOf(&l).Elem(), &lists)
		spoil(l)
		told := func() (s string) {
			for _, v := range lists {
				s += fmt.Sprintf("%+v\n", v)
			}
			return s
		}
		before := told()
		check.All(l)
		check.First(l)
		check.All(l[:1:2])
		for _, u := range l {
			for _, m := range u.Tree.Msgs {
				check.Key(m.Fields[0])
			}
		}
		if now := told(); now != before {
			t.Errorf("%s\nbecame\n%s", before, now)
		}
	}
}

// P8.3: a result that is changed changes no later result and no argument, and
// neither does an argument that is changed change an earlier result.
func TestChangedResults(t *testing.T) {
	l := project()
	before, first := fmt.Sprintf("%+v", l), []string(nil)
	for range 3 {
		all, _ := check.All(l)
		if first == nil {
			first = allTold(all)
		}
		if !slices.Equal(allTold(all), first) {
			t.Errorf("%v\nbecame\n%v", first, allTold(all))
		}
		all = all[:cap(all)]
		for i := range all {
			all[i] = api.Wrong{Path: "spoilt", At: -7, E: -7}
		}
		if now := fmt.Sprintf("%+v", l); now != before {
			t.Errorf("%s\nbecame\n%s", before, now)
		}
	}
	all, _ := check.All(l)
	at, _ := check.First(l)
	for i := range l {
		l[i] = api.Unit{Path: "spoilt"}
	}
	if !slices.Equal(allTold(all), first) || at.Path != "lib/a.proto" {
		t.Errorf("%v\nbecame\n%v, %v", first, allTold(all), at)
	}
}

// P8.1: what is found depends on the units as they are when they are checked.
func TestChangedArguments(t *testing.T) {
	l := units("a: message M{N a=1;}", "b: message N{}")
	is(t, l, "a 26 ErrName")
	l[0].Tree.Imports = []api.Import{{Path: "b"}}
	is(t, l)
	l[0].Tree.Package, l[1].Tree.Package = "p", "p"
	is(t, l)
	l[1].Tree.Package = "q"
	is(t, l, "a 26 ErrName")
	l[0].Tree.Msgs[0].Fields[0].Type = "q.N"
	is(t, l)
	l[1].Tree.Msgs[0].Name = "O"
	is(t, l, "a 26 ErrName")
	l[0].Tree.Msgs[0].Fields[0].Num = 0
	is(t, l, "a 26 ErrName", "a 30 ErrNumber")
	l[1].Path = "a"
	refuses(t, "the same path", l)
}

// R1: no call panics, whatever it is given, and each one ends.
func TestNoPanic(t *testing.T) {
	r := rand.New(rand.NewSource(6))
	odd := []string{"", ".", "a", "M", "\xff", "..", "a.", strings.Repeat("a", 200), "1"}
	for range 3000 {
		l := allParsed(randomSources(r, false))
		for range 1 + r.Intn(3) {
			u := &l[r.Intn(len(l))]
			switch r.Intn(8) {
			case 0:
				u.Path = pick(r, odd)
			case 1:
				u.Tree.Package = pick(r, odd)
			case 2:
				u.Tree.Imports = append(u.Tree.Imports, api.Import{Path: pick(r, odd)})
			case 3:
				u.Tree.Msgs = append(u.Tree.Msgs, api.MsgDef{Name: pick(r, odd), Msgs: deep(r.Intn(9))})
			case 4:
				u.Tree.Enums = append(u.Tree.Enums, api.EnumDef{Name: pick(r, odd), At: -1})
			case 5:
				u.Tree.Svcs = append(u.Tree.Svcs, api.SvcDef{Name: pick(r, odd), Rpcs: []api.RpcDef{{Name: "M", In: pick(r, odd), Out: "M"}}})
			case 6:
				u.Tree.Msgs = append(u.Tree.Msgs, api.MsgDef{Name: "M", Fields: []api.FieldDef{{Name: "a", Type: pick(r, odd), Card: r.Intn(6), Num: r.Intn(3), Oneof: -1}}})
			case 7:
				u.Tree.Msgs = append(u.Tree.Msgs, api.MsgDef{Name: "M", Fields: []api.FieldDef{{Name: pick(r, odd), Type: "M", Json: pick(r, odd), Card: 1, Oneof: r.Intn(4) - 2}}})
			}
		}
		all, e := check.All(l)
		if at, eFirst := check.First(l); e != api.OK && (len(all) > 0 || eFirst != e || at != api.Where{}) {
			t.Errorf("%d, %v, %d, %v", e, allTold(all), eFirst, at)
		}
	}
	for _, s := range append(odd, strings.Repeat("_", 1<<24)) {
		if check.IsKey(s) != (s == "a" || s == "M" || s == "1") {
			t.Errorf("%.100q", s)
		}
		check.Key(api.FieldDef{Name: s})
		if key := check.Key(api.FieldDef{Name: s, Json: s + "x"}); key != s+"x" {
			t.Errorf("%.100q", key)
		}
	}
}

// R1: arguments as wide and as deep as they may be.
func TestGreatArguments(t *testing.T) {
	wide, long := 1<<20, strings.Repeat("p", 1<<24)
	refuses(t, "wide", make([]api.Unit, wide))
	refuses(t, "long", []api.Unit{{Path: long}})
	refuses(t, "deep", []api.Unit{{Path: "a", Tree: api.Tree{Msgs: deep(1<<16 - 5)}}})
	refuses(t, "wide messages", []api.Unit{{Path: "a", Tree: api.Tree{Msgs: make([]api.MsgDef, wide)}}})
	refuses(t, "a long name", []api.Unit{{Path: "a", Tree: api.Tree{Msgs: []api.MsgDef{{Name: long}}}}})
	refuses(t, "a long type", []api.Unit{{Path: "a", Tree: api.Tree{Msgs: []api.MsgDef{{Name: "M", Fields: []api.FieldDef{{Name: "a", Type: long, Card: 1, Oneof: -1}}}}}}})
	refuses(t, "a long key", []api.Unit{{Path: "a", Tree: api.Tree{Msgs: []api.MsgDef{{Name: "M", Fields: []api.FieldDef{{Name: "a", Type: "M", Json: long, Card: 1, Oneof: -1}}}}}}})
}

// greatest is 16 units, in each of which something is as often as it may be, and
// which see each other or not.
func greatest(part string, isSeen bool) (l []api.Unit) {
	one := parsed("0", head+"package "+strings.Repeat("a.", 63)+"a;"+part).Tree
	many := func(count int) api.Tree {
		t := one
		t.Msgs, t.Enums, t.Svcs = slices.Repeat(t.Msgs, count), slices.Repeat(t.Enums, count), slices.Repeat(t.Svcs, count)
		return t
	}
	for i := range 16 {
		if isSeen && i > 0 {
			one.Imports = append(slices.Clone(one.Imports), api.Import{Path: fmt.Sprintf("%x", i-1)})
		}
		most := sort.Search(130, func(count int) bool { return print.Check(many(count)) != api.OK }) - 1
		l = append(l, api.Unit{Path: fmt.Sprintf("%x", i), Tree: many(most)})
	}
	return l
}

// R1: units that are as great as they may be, with as many fields and symbols as
// there can be, in scopes as deep, of which none is found, or all are the same.
func TestGreatUnits(t *testing.T) {
	for what, part := range map[string]string{
		"deep":    nested(strings.Repeat("a a=1;", 64), "M", "M", "M", "M", "M", "M", "M", "M"),
		"wide":    nested(strings.Repeat("a a=1;", 64), "M"),
		"many":    nested(strings.Repeat("message M{}", 20), "M"),
		"found":   nested(strings.Repeat("M a=1;", 64), "M"),
		"methods": "service M{" + strings.Repeat("rpc M(M)returns(M);", 64) + "}",
		"values":  "enum M{" + strings.Repeat("M=1;", 64) + "}",
		"ranges":  "message M{reserved " + strings.Repeat("1,", 63) + "1;reserved " + strings.Repeat(`"a",`, 63) + `"a";}`,
	} {
		for _, isSeen := range []bool{false, true} {
			all, e := check.All(greatest(part, isSeen))
			if e != api.OK || len(all) < 500 {
				t.Errorf("%s, %t: %d, %d", what, isSeen, e, len(all))
			}
		}
	}
}

// allResults is the results of calls for files, as a text that can be compared.
func allResults(seed int64) string {
	r := rand.New(rand.NewSource(seed))
	l := allParsed(randomSources(r, r.Intn(2) == 0))
	all, e := check.All(l)
	at, eFirst := check.First(l)
	s := fmt.Sprint(allTold(all), e, at, eFirst)
	for _, m := range allMessages(l[0].Tree.Msgs) {
		for _, f := range m.Fields {
			s += fmt.Sprint(check.Key(f), check.IsKey(f.Json))
		}
	}
	return s
}

// R2: a call returns the same again, after other calls and beside them.
func TestSameResultAgain(t *testing.T) {
	const count = 300
	var results []string
	for seed := range int64(count) {
		results = append(results, allResults(seed))
	}
	shared := project()
	all, _ := check.All(shared)
	var wait sync.WaitGroup
	for range 4 {
		wait.Go(func() {
			for seed := range int64(count) {
				again, _ := check.All(shared)
				if allResults(seed) != results[seed] || !slices.Equal(again, all) {
					t.Errorf("another result for %d", seed)
				}
			}
		})
	}
	wait.Wait()
}
