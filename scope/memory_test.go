package scope_test

import (
	"cmp"
	"fmt"
	"math/rand"
	"reflect"
	"slices"
	"strings"
	"sync"
	"testing"
	"unsafe"

	"signetry/api"
	"signetry/scope"
)

// area is memory, from one address up to another, and what is there.
type area struct {
	from, to uintptr
	what     string
}

func (a area) meets(b area) bool {
	return a.from < b.to && b.from < a.to
}

// areas is the memory of all strings and lists in a value, with the unused
// capacity of the lists. Strings of one byte are left out, as all of them are at
// the same places.
func areas(v any) (l []area) {
	var add func(v reflect.Value, what string)
	add = func(v reflect.Value, what string) {
		switch v.Kind() {
		case reflect.String:
			if s := v.String(); len(s) > 1 {
				from := uintptr(unsafe.Pointer(unsafe.StringData(s)))
				l = append(l, area{from, from + uintptr(len(s)), what + " " + s[:min(len(s), 30)]})
			}
		case reflect.Slice:
			if v.Cap() > 0 {
				l = append(l, area{v.Pointer(), v.Pointer() + uintptr(v.Cap())*v.Type().Elem().Size(), what})
			}
			for i := range v.Len() {
				add(v.Index(i), fmt.Sprintf("%s[%d]", what, i))
			}
		case reflect.Struct:
			for i := range v.NumField() {
				add(v.Field(i), what+"."+v.Type().Field(i).Name)
			}
		}
	}
	add(reflect.ValueOf(v), reflect.TypeOf(v).String())
	return l
}

// apart checks that no result shares memory with an argument, nor with another
// result.
func apart(t *testing.T, arguments []any, results []any) {
	t.Helper()
	var of [][]area
	for _, v := range append(results, arguments...) {
		of = append(of, areas(v))
	}
	for i := range results {
		for j := i + 1; j < len(of); j++ {
			for _, a := range of[i] {
				for _, b := range of[j] {
					if a.meets(b) {
						t.Errorf("%s shares memory with %s", a.what, b.what)
					}
				}
			}
		}
	}
}

// project is units with longer paths and names, some of which have no package.
func project() []api.Unit {
	return units(
		`lib/a.proto: package pack.age;import public"lib/b.proto";message Message{message Inner{enum Enum{}}enum Enum{}}enum Enum{}service Service{}`,
		"lib/b.proto: message Message{message Inner{}}enum Enum{}service Service{}",
		"lib/c.proto: package other;message Message{}")
}

// P7.3: symbols share no memory with the units, nor do those of one list with each
// other, or those of two calls.
func TestSymbolsAreNewMemory(t *testing.T) {
	l := project()
	all := scope.All(l)
	if len(all) != 11 {
		t.Fatal(allTold(all))
	}
	apart(t, []any{l}, []any{all, scope.All(l)})
	parts := areas(all)[1:]
	slices.SortFunc(parts, func(a, b area) int { return cmp.Compare(a.from, b.from) })
	for i := 1; i < len(parts); i++ {
		if parts[i-1].meets(parts[i]) {
			t.Errorf("%s and %s share memory", parts[i-1].what, parts[i].what)
		}
	}
}

// P7.3: a symbol that is found shares no memory with the arguments.
func TestFoundIsNewMemory(t *testing.T) {
	l := project()
	for in, some := range map[string][]string{
		"":                       {"Message", ".Message", "Message.Inner", ".pack.age.Message", "Service", "Enum"},
		"pack.age":               {"Message", "Enum", "Message.Inner.Enum", ".Service"},
		"pack.age.Message.Inner": {"Message", "Inner", "Enum", ".Message.Inner", "Service"},
	} {
		for _, name := range some {
			path, in, name := strings.Clone("lib/a.proto"), strings.Clone(in), strings.Clone(name)
			first, e := scope.Find(l, path, in, name)
			second, _ := scope.Find(l, path, in, name)
			if e != api.OK || first != second {
				t.Errorf("%s in %s: %d, %s, %s", name, in, e, told(first), told(second))
			}
			apart(t, []any{l, path, in, name}, []any{first, second})
		}
	}
}

// P7.3: scopes share no memory with the name, nor do those of two calls.
func TestScopesAreNewMemory(t *testing.T) {
	for _, name := range []string{"Message", "pack.age.Message", "..", "pack..", ".age", strings.Repeat("ab.", 100)} {
		name := strings.Clone(name)
		apart(t, []any{name}, []any{scope.Scopes(name), scope.Scopes(name)})
	}
}

// roomy is a list with room behind it, of which everything is known.
func roomy[T any](l []T, behind T) ([]T, []T) {
	all := append(slices.Clone(l), behind, behind)
	return all[:len(l)], all
}

// P7.3: units are only read, with what is behind their lists, whether they are
// valid or not.
func TestUnitsAreOnlyRead(t *testing.T) {
	for _, spoil := range []func(l []api.Unit){
		func(l []api.Unit) {},
		func(l []api.Unit) { l[0], l[1] = l[1], l[0] },
		func(l []api.Unit) { l[0].Tree.Imports[0].Path = "lib/d.proto" },
		func(l []api.Unit) { l[1].Tree.Msgs[0].Name = "" },
		func(l []api.Unit) { slices.Reverse(l[0].Tree.Msgs[0].Enums) },
	} {
		l, all := roomy(project(), api.Unit{Path: "behind"})
		var msgs [][]api.MsgDef
		var enums [][]api.EnumDef
		var svcs [][]api.SvcDef
		for i := range l {
			of := &l[i].Tree
			someMsgs, moreMsgs := roomy(of.Msgs, api.MsgDef{Name: "behind"})
			someEnums, moreEnums := roomy(of.Enums, api.EnumDef{Name: "behind"})
			someSvcs, moreSvcs := roomy(of.Svcs, api.SvcDef{Name: "behind"})
			of.Msgs, of.Enums, of.Svcs = someMsgs, someEnums, someSvcs
			msgs, enums, svcs = append(msgs, moreMsgs), append(enums, moreEnums), append(svcs, moreSvcs)
		}
		spoil(l)
		before := fmt.Sprintf("%+v %v %v %v", all, msgs, enums, svcs)
		scope.All(l)
		scope.All(l[:2:3])
		scope.Find(l, "lib/a.proto", "pack.age.Message", "Enum")
		scope.Find(l, "lib/b.proto", "", "none")
		scope.Find(l, "none", "", "")
		if now := fmt.Sprintf("%+v %v %v %v", all, msgs, enums, svcs); now != before {
			t.Errorf("%s\nbecame\n%s", before, now)
		}
	}
}

// P7.3: a result that is changed changes no later result and no argument, and
// neither do arguments that are changed after a call.
func TestChangedResults(t *testing.T) {
	l := project()
	before := fmt.Sprintf("%+v", l)
	var symbols, scopes []string
	for range 3 {
		all, outwards := scope.All(l), scope.Scopes("pack.age.Message")
		if symbols == nil {
			symbols, scopes = allTold(all), slices.Clone(outwards)
		}
		if !slices.Equal(allTold(all), symbols) || !slices.Equal(outwards, scopes) {
			t.Errorf("%v, %v, want %v, %v", allTold(all), outwards, symbols, scopes)
		}
		for i := range all[:cap(all)] {
			all[:cap(all)][i] = api.Symbol{Name: "spoilt", Path: "spoilt", Kind: 7, At: -7}
		}
		for i := range outwards[:cap(outwards)] {
			outwards[:cap(outwards)][i] = "spoilt"
		}
		if now := fmt.Sprintf("%+v", l); now != before {
			t.Errorf("%s\nbecame\n%s", before, now)
		}
	}
	all := scope.All(l)
	for i := range l {
		l[i] = api.Unit{}
	}
	if !slices.Equal(allTold(all), symbols) {
		t.Errorf("%v, want %v", allTold(all), symbols)
	}
}

// P7.3: what is found depends on the units as they are when it is looked for.
func TestChangedArguments(t *testing.T) {
	l := units("a: message M{}", `b: import"a";package p;`)
	finds(t, l, "b", "p", "M", "M a")
	l[1].Tree.Msgs = []api.MsgDef{{Name: "M", At: 7}}
	finds(t, l, "b", "p", "M", "p.M")
	l[0].Tree.Msgs[0].Name = "N"
	fails(t, l, "b", "", "M", api.ErrName)
	finds(t, l, "b", "", "N", "N a")
	l[1].Tree.Imports = nil
	fails(t, l, "b", "", "N", api.ErrName)
	has(t, l, "message N a 24", "message p.M b 7")
	l[1].Tree.Package = "q"
	has(t, l, "message N a 24", "message q.M b 7")
	l[1].Path = "a"
	refuses(t, "the same path", l)
}

// R1: no call panics, whatever it is given, and each one ends.
func TestNoPanic(t *testing.T) {
	r := rand.New(rand.NewSource(6))
	odd := []string{"", ".", "a", "M", "\xff", "..", "a.", strings.Repeat("a", 200), "1"}
	for range 3000 {
		l := parsed(randomSources(r))
		for range r.Intn(4) {
			u := &l[r.Intn(len(l))]
			switch r.Intn(6) {
			case 0:
				u.Path = pick(r, odd)
			case 1:
				u.Tree.Package = pick(r, odd)
			case 2:
				u.Tree.Imports = append(u.Tree.Imports, api.Import{Path: pick(r, odd)})
			case 3:
				u.Tree.Msgs = append(u.Tree.Msgs, api.MsgDef{Name: pick(r, odd), Msgs: deep(r.Intn(9))})
			case 4:
				u.Tree.Enums = append(u.Tree.Enums, api.EnumDef{Name: pick(r, odd), At: -1})
			case 5:
				u.Tree.Svcs = append(u.Tree.Svcs, api.SvcDef{Name: pick(r, odd)})
			}
		}
		all := scope.All(l)
		for _, s := range all {
			if s.Name == "" || s.Path == "" || s.Kind < api.SymMsg || s.Kind > api.SymSvc {
				t.Errorf("%+v", s)
			}
		}
		for _, path := range append(odd, l[0].Path) {
			in, name := pick(r, odd), pick(r, odd)
			if s, e := scope.Find(l, path, in, name); e == api.OK && !slices.Contains(all, s) || e != api.OK && s != (api.Symbol{}) {
				t.Errorf("%q in %q in %q: %d, %s", name, in, path, e, told(s))
			}
		}
	}
}

// R1: arguments as wide and as deep as they may be.
func TestGreatArguments(t *testing.T) {
	wide, long := 1<<20, strings.Repeat("p", 1<<24)
	deepest := api.Tree{Msgs: deep(1<<16 - 5)}
	refuses(t, "wide", make([]api.Unit, wide))
	refuses(t, "long", []api.Unit{{Path: long}})
	refuses(t, "deep", []api.Unit{{Path: "a", Tree: deepest}})
	refuses(t, "wide messages", []api.Unit{{Path: "a", Tree: api.Tree{Msgs: make([]api.MsgDef, wide)}}})
	refuses(t, "a long name", []api.Unit{{Path: "a", Tree: api.Tree{Msgs: []api.MsgDef{{Name: long}}}}})
	refuses(t, "a long package", []api.Unit{{Path: "a", Tree: api.Tree{Package: long}}})
	l := units("a: message p{}")
	fails(t, l, long, long, long, api.ErrArg)
	fails(t, l, "a", long, long, api.ErrName)
	finds(t, l, "a", long, "p", "p")
}

// allResults is the results of calls for files, as a text that can be compared.
func allResults(seed int64) string {
	r := rand.New(rand.NewSource(seed))
	l := randomSources(r)
	u := parsed(l)
	all := scope.All(u)
	scopes := randomNames(r, all, 3)
	s := fmt.Sprint(allTold(all), meanings(u, pick(r, u).Path, scopes, randomNames(r, all, 3)))
	for _, in := range scopes {
		s += fmt.Sprint(scope.Scopes(in))
	}
	return s
}

// R2: a call returns the same again, after other calls and beside them.
func TestSameResultAgain(t *testing.T) {
	const count = 300
	var results []string
	for seed := range int64(count) {
		results = append(results, allResults(seed))
	}
	shared := project()
	sharedResult := fmt.Sprint(allTold(scope.All(shared)), meanings(shared, "lib/a.proto", []string{"pack.age"}, []string{"Enum", "none"}))
	var wait sync.WaitGroup
	for range 4 {
		wait.Go(func() {
			for seed := range int64(count) {
				again := fmt.Sprint(allTold(scope.All(shared)), meanings(shared, "lib/a.proto", []string{"pack.age"}, []string{"Enum", "none"}))
				if allResults(seed) != results[seed] || again != sharedResult {
					t.Errorf("another result for %d", seed)
				}
			}
		})
	}
	wait.Wait()
}
