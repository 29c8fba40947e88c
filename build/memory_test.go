package build_test

import (
	"cmp"
	"fmt"
	"math/rand"
	"reflect"
	"slices"
	"strings"
	"sync"
	"testing"
	"unsafe"

	"signetry/api"
	"signetry/build"
)

// area is memory, from one address up to another, and what is there.
type area struct {
	from, to uintptr
	what     string
}

func (a area) meets(b area) bool {
	return a.from < b.to && b.from < a.to
}

// areas is the memory of all strings and lists in a value, with the unused
// capacity of the lists. Strings of one byte are left out, as all of them are at
// the same places.
func areas(v any) (l []area) {
	var add func(v reflect.Value, what string)
	add = func(v reflect.Value, what string) {
		switch v.Kind() {
		case reflect.String:
			if s := v.String(); len(s) > 1 {
				from := uintptr(unsafe.Pointer(unsafe.StringData(s)))
				l = append(l, area{from, from + uintptr(len(s)), what + " " + s[:min(len(s), 30)]})
			}
		case reflect.Slice:
			if v.Cap() > 0 {
				l = append(l, area{v.Pointer(), v.Pointer() + uintptr(v.Cap())*v.Type().Elem().Size(), what})
			}
			for i := range v.Len() {
				add(v.Index(i), fmt.Sprintf("%s[%d]", what, i))
			}
		case reflect.Struct:
			for i := range v.NumField() {
				add(v.Field(i), what+"."+v.Type().Field(i).Name)
			}
		}
	}
	add(reflect.ValueOf(v), reflect.TypeOf(v).String())
	return l
}

// apart checks that no parts of results share memory, with each other or with
// arguments.
func apart(t *testing.T, arguments []any, results []any) {
	t.Helper()
	var all, others []area
	for _, v := range arguments {
		others = append(others, areas(v)...)
	}
	for _, v := range results {
		all = append(all, areas(v)...)
	}
	slices.SortFunc(all, func(a, b area) int { return cmp.Compare(a.from, b.from) })
	for i, a := range all {
		if i > 0 && all[i-1].meets(a) {
			t.Errorf("%s and %s share memory", all[i-1].what, a.what)
		}
		for _, b := range others {
			if a.meets(b) {
				t.Errorf("%s shares memory with the argument %s", a.what, b.what)
			}
		}
	}
}

// project is files with longer paths and names, with something of everything.
// They hold no constant strings, as these are at the same places.
func project() (l []api.Source) {
	const body = `message Message{repeated Inner first_field=1[json_name="firstKey"];map<string,Enum>second_field=2;oneof first_oneof{Message third_field=3;^Message.Inner fourth_field=4;}message Inner{string inner_field=1;}reserved 5,7 to 9;reserved"sixth_field","fifth_field";}enum Enum{ZERO=0;NEGATIVE=-1;reserved 7 to max,5;reserved"SIXTH","FIFTH";}service Service{rpc FirstCall(Message)returns(Message.Inner);rpc SecondCall(^Message)returns(Message);}`
	for _, s := range sources(
		`lib/a.proto: package pack.age;import public"lib/b.proto";import"lib/c.proto";`+strings.ReplaceAll(body, "^", "."),
		"lib/b.proto: "+strings.ReplaceAll(body, "^", "."),
		"lib/c.proto: package pack.age.other;"+strings.ReplaceAll(body, "^", "")) {
		l = append(l, api.Source{Path: strings.Clone(s.Path), Text: strings.Clone(s.Text)})
	}
	return l
}

func projectSet(t *testing.T) api.Set {
	t.Helper()
	s, at, e := build.Build(project(), []string{"lib/a.proto"})
	if e != api.OK || len(s.Files) != 3 {
		t.Fatal(e, at)
	}
	return s
}

// P9.3: sets share no memory with sources, roots and units, nor within
// themselves, nor do those of two calls.
func TestSetsAreNewMemory(t *testing.T) {
	l, roots := project(), []string{strings.Clone("lib/a.proto")}
	first, _, e := build.Build(l, roots)
	second, _, _ := build.Build(l, roots)
	if e != api.OK || len(areas(first)) < 100 {
		t.Fatal(e, told(first))
	}
	apart(t, []any{l, roots}, []any{first, second})
	units := unitsOf(l)
	first, _, _ = build.Link(units)
	second, _, e = build.Link(units)
	if e != api.OK || len(areas(first)) < 100 {
		t.Fatal(e)
	}
	apart(t, []any{units}, []any{first, second})
}

// P9.3: neither do the places of errors.
func TestPlacesAreNewMemory(t *testing.T) {
	for _, text := range []string{"", "?", `import"lib/b.proto";`, "message M{Unknown a=1;}"} {
		l := []api.Source{{Path: strings.Clone("lib/a.proto"), Text: head + text}}
		if text == "" {
			l[0].Path = strings.Clone("lib/d.proto")
		}
		roots := []string{strings.Clone("lib/a.proto")}
		_, first, e := build.Build(l, roots)
		_, second, _ := build.Build(l, roots)
		if e == api.OK || first.Path != "lib/a.proto" {
			t.Errorf("%d at %v", e, first)
		}
		apart(t, []any{l, roots}, []any{first, second})
	}
	units := unitsOf(sources("lib/a.proto: message M{Unknown a=1;}"))
	_, first, _ := build.Link(units)
	_, second, _ := build.Link(units)
	apart(t, []any{units}, []any{first, second})
}

// P9.3: copies share no memory with the set, nor does what is found in it.
func TestCopiesAreNewMemory(t *testing.T) {
	s := projectSet(t)
	apart(t, []any{s}, []any{build.Copy(s), build.Copy(s)})
	for _, m := range s.Msgs {
		first, isFirst := build.Msg(s, m.Name)
		second, isSecond := build.Msg(s, m.Name)
		if !isFirst || !isSecond || len(areas(first)) < 2 {
			t.Fatal(first)
		}
		apart(t, []any{s}, []any{first, second})
		for _, x := range m.Fields {
			byNum, _ := build.Field(m, x.Num)
			again, _ := build.Field(m, x.Num)
			byKey, _ := build.ByKey(m, x.Json)
			later, found := build.ByKey(m, x.Json)
			if !found || len(areas(again)) < 2 {
				t.Fatal(x)
			}
			apart(t, []any{s}, []any{byNum, again, byKey, later})
		}
	}
	for _, n := range s.Enums {
		first, _ := build.Enum(s, n.Name)
		second, found := build.Enum(s, n.Name)
		if !found || len(areas(first)) < 2 {
			t.Fatal(first)
		}
		apart(t, []any{s}, []any{first, second})
	}
}

// withRoom is a value with room behind each of its lists, in which there is
// something, and all these lists with what is behind them.
func withRoom(v reflect.Value, all *[]reflect.Value) {
	switch v.Kind() {
	case reflect.Struct:
		for i := range v.NumField() {
			withRoom(v.Field(i), all)
		}
	case reflect.Slice:
		n := v.Len()
		more := reflect.MakeSlice(v.Type(), n+2, n+2)
		reflect.Copy(more, v)
		for i := range n {
			withRoom(more.Index(i), all)
		}
		for i := range 2 {
			fill(more.Index(n + i))
		}
		*all = append(*all, more)
		v.Set(more.Slice(0, n))
	}
}

// fill puts something in each part of a value that is no list.
func fill(v reflect.Value) {
	switch v.Kind() {
	case reflect.String:
		v.SetString("behind")
	case reflect.Int:
		v.SetInt(7)
	case reflect.Struct:
		for i := range v.NumField() {
			fill(v.Field(i))
		}
	case reflect.Array:
		for i := range v.Len() {
			fill(v.Index(i))
		}
	}
}

// onlyReads checks that a call changes nothing in a value, nor behind its lists.
func onlyReads(t *testing.T, v any, call func()) {
	t.Helper()
	var lists []reflect.Value
	withRoom(reflect.ValueOf(v).Elem(), &lists)
	all := func() (s string) {
		for _, l := range lists {
			s += fmt.Sprintf("%+v\n", l)
		}
		return s
	}
	before := all()
	call()
	if now := all(); now != before {
		t.Errorf("%s\nbecame\n%s", before, now)
	}
}

// P9.3: arguments are only read, with what is behind all of their lists, whether
// they are valid or not.
func TestArgumentsAreOnlyRead(t *testing.T) {
	l, roots := project(), []string{"lib/c.proto", "lib/a.proto", "lib/b.proto"}
	slices.Reverse(l)
	onlyReads(t, &l, func() { build.Build(l, roots) })
	onlyReads(t, &roots, func() { build.Build(l, roots) })
	r := rand.New(rand.NewSource(11))
	for range 100 {
		units := unitsOf(randomSources(r))
		for i := range units {
			shuffleTree(r, &units[i].Tree)
		}
		onlyReads(t, &units, func() { build.Link(units) })
		slices.Reverse(units)
		onlyReads(t, &units, func() { build.Link(units) })
	}
	for i := range 100 {
		s := projectSet(t)
		if i > 0 {
			spoil(r, &s)
		}
		onlyReads(t, &s, func() {
			build.Check(s)
			build.Same(s, s)
			build.Copy(s)
			build.Msg(s, "Message")
			build.Enum(s, "Enum")
			for _, m := range s.Msgs {
				build.Field(m, 3)
				build.ByKey(m, "thirdField")
			}
		})
	}
}

// ruin changes all of a value, with all that it shares.
func ruin(v reflect.Value) {
	switch v.Kind() {
	case reflect.Struct:
		for i := range v.NumField() {
			ruin(v.Field(i))
		}
	case reflect.Slice:
		v = v.Slice(0, v.Cap())
		for i := range v.Len() {
			ruin(v.Index(i))
		}
	case reflect.Array:
		for i := range v.Len() {
			ruin(v.Index(i))
		}
	case reflect.String:
		v.SetString("ruined")
	case reflect.Int:
		v.SetInt(-77)
	case reflect.Bool:
		v.SetBool(!v.Bool())
	}
}

// P9.3: a result that is changed changes no later result and no argument.
func TestChangedResults(t *testing.T) {
	l, want := project(), projectSet(t)
	units := unitsOf(l)
	before := fmt.Sprintf("%+v%+v", l, units)
	for range 3 {
		s, _, _ := build.Build(l, []string{"lib/a.proto"})
		linked, _, _ := build.Link(units)
		again := build.Copy(want)
		if !deepEqual(s, want) || !deepEqual(linked, want) || !deepEqual(again, want) {
			t.Errorf("%v\n%v\n%v\nwant %v", told(s), told(linked), told(again), told(want))
		}
		for _, v := range []*api.Set{&s, &linked, &again} {
			ruin(reflect.ValueOf(v).Elem())
		}
		for _, of := range want.Msgs {
			m, _ := build.Msg(want, of.Name)
			ruin(reflect.ValueOf(&m).Elem())
		}
		for _, of := range want.Enums {
			n, _ := build.Enum(want, of.Name)
			ruin(reflect.ValueOf(&n).Elem())
		}
		if now := fmt.Sprintf("%+v%+v", l, units); now != before {
			t.Errorf("%s\nbecame\n%s", before, now)
		}
	}
	if !deepEqual(want, projectSet(t)) {
		t.Errorf("the set became %v", told(want))
	}
}

// P9.3: an argument that is changed changes no earlier result.
func TestChangedArguments(t *testing.T) {
	want := projectSet(t)
	units := unitsOf(project())
	linked, _, _ := build.Link(units)
	ruin(reflect.ValueOf(&units).Elem())
	if !deepEqual(linked, want) {
		t.Errorf("the set became %v", told(linked))
	}
	s := projectSet(t)
	again := build.Copy(s)
	m, _ := build.Msg(s, "Message")
	n, _ := build.Enum(s, "Enum")
	x, _ := build.Field(m, 3)
	y, _ := build.ByKey(m, "thirdField")
	ruin(reflect.ValueOf(&s).Elem())
	wantMsg, _ := build.Msg(want, "Message")
	wantEnum, _ := build.Enum(want, "Enum")
	wantField, isThere := build.Field(wantMsg, 3)
	if !isThere || !deepEqual(again, want) || !deepEqual(m, wantMsg) || !deepEqual(n, wantEnum) || x != wantField || y != wantField {
		t.Errorf("%v\n%v\n%v\n%v\n%v", again, m, n, x, y)
	}
	// What is built depends on the units as they are when they are linked.
	units = unitsOf(sources("a: message M{N a=1;message N{}}message N{}"))
	linked, _, _ = build.Link(units)
	fields(t, linked, "M", "1 a a opt message M.N")
	units[0].Tree.Msgs[0].Msgs[0].Name = "O"
	linked, _, _ = build.Link(units)
	fields(t, linked, "M", "1 a a opt message N")
	units[0].Tree.Package = "p"
	linked, _, _ = build.Link(units)
	fields(t, linked, "p.M", "1 a a opt message p.N")
	units[0].Tree.Msgs[1].Name = "P"
	refuses(t, units, api.ErrName, "a", len(head)+len("message M{"))
}

// R1: no call panics, whatever it is given, and each one ends.
func TestNoPanic(t *testing.T) {
	t.Parallel()
	r := rand.New(rand.NewSource(12))
	var l []api.Source
	for i := range 1000 {
		if i%50 == 0 {
			l = randomSources(r)
		}
		s, _, _ := build.Build(l, pathsOf(l))
		for range 1 + r.Intn(40) {
			spoil(r, &s)
		}
		if e := build.Check(s); e == api.OK != (len(secondWrong(s)) == 0) {
			t.Errorf("%d of %+v", e, s)
		}
		if again := build.Copy(s); !build.Same(s, again) || !deepEqual(s, again) {
			t.Errorf("%+v\nis copied as\n%+v", s, again)
		}
		for _, m := range s.Msgs {
			for _, x := range m.Fields {
				byNum, isNum := build.Field(m, x.Num)
				byKey, isKey := build.ByKey(m, x.Json)
				if !isNum || !isKey || byNum.Num != x.Num || byKey.Json != x.Json {
					t.Errorf("%+v: %+v, %+v", x, byNum, byKey)
				}
			}
			if found, isThere := build.Msg(s, m.Name); !isThere || found.Name != m.Name {
				t.Errorf("%+v", found)
			}
		}
		units := unitsOf(l)
		for range 1 + r.Intn(3) {
			spoilUnits(r, &units)
		}
		linked, at, e := build.Link(units)
		if e != api.OK && len(told(linked)) > 0 || e == api.OK && (at != (api.Where{}) || build.Check(linked) != api.OK) {
			t.Errorf("%d at %v: %v", e, at, told(linked))
		}
		text := slices.Clone(l)
		text[0].Text = text[0].Text[:r.Intn(len(text[0].Text)+1)]
		if s, _, e := build.Build(text, pathsOf(text)); e == api.OK && build.Check(s) != api.OK || e != api.OK && len(told(s)) > 0 {
			t.Errorf("%d: %v", e, told(s))
		}
	}
	for range 3 {
		build.Build(nil, nil)
		build.Link(nil)
		build.Check(api.Set{})
		build.Same(api.Set{}, api.Set{})
		build.Copy(api.Set{})
		build.Msg(api.Set{}, "")
		build.Enum(api.Set{}, "")
		build.Field(api.Msg{}, 0)
		build.ByKey(api.Msg{}, "")
	}
}

// spoilUnits changes something in units.
func spoilUnits(r *rand.Rand, l *[]api.Unit) {
	all := parts(reflect.ValueOf(l).Elem())
	switch v := pick(r, all); v.Kind() {
	case reflect.Bool:
		v.SetBool(!v.Bool())
	case reflect.Int:
		v.SetInt(otherNumber(r, all, v.Int()))
	case reflect.String:
		v.SetString(otherText(r, all, v.String()))
	case reflect.Slice:
		spoilList(r, v)
	}
}

// R1: arguments as wide, as long and as deep as they may be.
func TestGreatArguments(t *testing.T) {
	t.Parallel()
	wide, long := 1<<20, strings.Repeat("p", 1<<24)
	for what, s := range map[string]api.Set{
		"files":    {Files: make([]api.File, wide)},
		"imports":  {Files: []api.File{{Path: "a", Imports: make([]api.Import, wide)}}},
		"messages": {Files: []api.File{{Path: "a"}}, Msgs: make([]api.Msg, wide)},
		"enums":    {Files: []api.File{{Path: "a"}}, Enums: make([]api.Enum, wide)},
		"services": {Files: []api.File{{Path: "a"}}, Svcs: make([]api.Svc, wide)},
		"fields":   {Files: []api.File{{Path: "a"}}, Msgs: []api.Msg{{Path: "a", Name: "M", Fields: make([]api.Field, wide)}}},
		"oneofs":   {Files: []api.File{{Path: "a"}}, Msgs: []api.Msg{{Path: "a", Name: "M", Oneofs: make([]string, wide)}}},
		"ranges":   {Files: []api.File{{Path: "a"}}, Msgs: []api.Msg{{Path: "a", Name: "M", Ranges: make([][2]int, wide)}}},
		"names":    {Files: []api.File{{Path: "a"}}, Msgs: []api.Msg{{Path: "a", Name: "M", Names: make([]string, wide)}}},
		"values":   {Files: []api.File{{Path: "a"}}, Enums: []api.Enum{{Path: "a", Name: "M", Values: make([]api.Value, wide)}}},
		"rpcs":     {Files: []api.File{{Path: "a"}}, Svcs: []api.Svc{{Path: "a", Name: "M", Rpcs: make([]api.Rpc, wide)}}},
		"a path":   {Files: []api.File{{Path: long}}},
		"package":  {Files: []api.File{{Path: "a", Package: long}}},
		"a name":   {Files: []api.File{{Path: "a"}}, Msgs: []api.Msg{{Path: "a", Name: long}}},
		"periods":  {Files: []api.File{{Path: "a"}}, Enums: []api.Enum{{Path: "a", Name: strings.Repeat("p.", 1<<23) + "p"}}},
		"a key":    {Files: []api.File{{Path: "a"}}, Msgs: []api.Msg{{Path: "a", Name: "M", Fields: []api.Field{{Name: "a", Json: long, Num: 1, Type: 5, Card: 1, Oneof: -1}}}}},
		"a ref":    {Files: []api.File{{Path: "a"}}, Msgs: []api.Msg{{Path: "a", Name: "M", Fields: []api.Field{{Name: "a", Json: "a", Num: 1, Type: 11, Card: 2, Ref: long, Oneof: -1}}}}},
	} {
		if e := build.Check(s); e != api.ErrArg {
			t.Errorf("%s: %d", what, e)
		}
		if again := build.Copy(s); !build.Same(s, again) {
			t.Errorf("%s: another copy", what)
		}
		if _, found := build.Msg(s, "x"); found {
			t.Errorf("%s: found", what)
		}
	}
	refuses(t, make([]api.Unit, wide), api.ErrArg, "", 0)
	refuses(t, []api.Unit{{Path: long}}, api.ErrArg, "", 0)
	refuses(t, []api.Unit{{Path: "a", Tree: api.Tree{Msgs: deep(1<<16 - 5)}}}, api.ErrArg, "", 0)
	fails(t, make([]api.Source, wide), []string{"a"}, api.ErrArg, "", 0)
	fails(t, nil, make([]string, wide), api.ErrArg, "", 0)
	fails(t, nil, []string{long}, api.ErrMissing, long, 0)
}

// deep is messages in each other.
func deep(count int) (l []api.MsgDef) {
	for range count {
		l = []api.MsgDef{{Name: "M", Msgs: l}}
	}
	return l
}

// greatest is 16 files that see each other, with as many messages and fields as
// there may be, of types that are found in the last scope.
func greatest() (l []api.Source) {
	for i := range 16 {
		var b strings.Builder
		pkg := fmt.Sprintf("%sp%02d", strings.Repeat("abc.", 4), i)
		fmt.Fprint(&b, head, "package ", pkg, ";")
		for k := range i {
			fmt.Fprintf(&b, "import public \"f%02d\";", k)
		}
		for k := range 8 {
			inside := ""
			for n := range 64 {
				inside += fmt.Sprintf("abc.abc.abc.abc.p%02d.M%d f%d=%d;", n%(i+1), n%8, n, n+1)
			}
			fmt.Fprintf(&b, "message M%d{%s}enum E%d{%s}service S%d{%s}", k, inside, k, "Z=0;"+many(63, "V#=1#;"), k, many(64, "rpc F#(M1)returns(M2);"))
		}
		l = append(l, api.Source{Path: fmt.Sprintf("f%02d", i), Text: b.String()})
	}
	return l
}

// R1: files that are as great as they may be.
func TestGreatFiles(t *testing.T) {
	l := greatest()
	s, at, e := build.Build(l, []string{"f15"})
	if e != api.OK || len(s.Msgs) != 128 || len(s.Enums) != 128 || len(s.Svcs) != 128 {
		t.Fatal(e, at)
	}
	if e := build.Check(s); e != api.OK {
		t.Error(e)
	}
	fields := 0
	for _, m := range s.Msgs {
		fields += len(m.Fields)
	}
	if fields != 128*64 || s.Msgs[127].Fields[63].Ref != "abc.abc.abc.abc.p15.M7" {
		t.Errorf("%d fields, %+v", fields, s.Msgs[127].Fields[63])
	}
}

// allResults is the results of calls for random files, as a text that can be
// compared.
func allResults(seed int64) string {
	r := rand.New(rand.NewSource(seed))
	l := randomSources(r)
	s, at, e := build.Build(l, pathsOf(l))
	text := fmt.Sprintf("%+v %v %d", s, at, e)
	s, at, e = build.Link(unitsOf(l))
	text += fmt.Sprintf("%+v %v %d %d", s, at, e, build.Check(s))
	other := build.Copy(s)
	spoil(r, &other)
	text += fmt.Sprintf("%+v %d %t", other, build.Check(other), build.Same(s, other))
	for _, m := range other.Msgs {
		found, isThere := build.Msg(s, m.Name)
		text += fmt.Sprintf("%+v %t", found, isThere)
		for _, x := range m.Fields {
			byNum, isNum := build.Field(found, x.Num)
			byKey, isKey := build.ByKey(found, x.Json)
			text += fmt.Sprintf("%+v %t %+v %t", byNum, isNum, byKey, isKey)
		}
	}
	for _, n := range other.Enums {
		found, isThere := build.Enum(s, n.Name)
		text += fmt.Sprintf("%+v %t", found, isThere)
	}
	return text
}

// R2: a call returns the same again, after other calls and beside them.
func TestSameResultAgain(t *testing.T) {
	t.Parallel()
	const count = 100
	var results []string
	for seed := range int64(count) {
		results = append(results, allResults(seed))
	}
	shared := projectSet(t)
	var wait sync.WaitGroup
	for range 4 {
		wait.Go(func() {
			for seed := range int64(count) {
				if allResults(seed) != results[seed] || build.Check(shared) != api.OK || !build.Same(shared, build.Copy(shared)) {
					t.Errorf("another result for %d", seed)
				}
			}
		})
	}
	wait.Wait()
}
