package files_test

import (
	"cmp"
	"fmt"
	"math/rand"
	"reflect"
	"slices"
	"strings"
	"sync"
	"testing"
	"unsafe"

	"signetry/api"
	"signetry/files"
	"signetry/print"
	"signetry/tree"
)

// area is memory, from one address up to another, and what is there.
type area struct {
	from, to uintptr
	what     string
}

func (a area) meets(b area) bool {
	return a.from < b.to && b.from < a.to
}

// areas is the memory of all strings and lists in a value, with the unused
// capacity of the lists. Strings of one byte are left out, as all of them are at
// the same places.
func areas(v any) (l []area) {
	var add func(v reflect.Value, what string)
	add = func(v reflect.Value, what string) {
		switch v.Kind() {
		case reflect.String:
			if s := v.String(); len(s) > 1 {
				from := uintptr(unsafe.Pointer(unsafe.StringData(s)))
				l = append(l, area{from, from + uintptr(len(s)), what + " " + s[:min(len(s), 30)]})
			}
		case reflect.Slice:
			if v.Cap() > 0 {
				l = append(l, area{v.Pointer(), v.Pointer() + uintptr(v.Cap())*v.Type().Elem().Size(), what})
			}
			for i := range v.Len() {
				add(v.Index(i), fmt.Sprintf("%s[%d]", what, i))
			}
		case reflect.Struct:
			for i := range v.NumField() {
				add(v.Field(i), what+"."+v.Type().Field(i).Name)
			}
		}
	}
	add(reflect.ValueOf(v), reflect.TypeOf(v).String())
	return l
}

// apart checks that no parts of results share memory, with each other or with
// arguments.
func apart(t *testing.T, arguments []any, results []any) {
	t.Helper()
	var all, others []area
	for _, v := range arguments {
		others = append(others, areas(v)...)
	}
	for _, v := range results {
		all = append(all, areas(v)...)
	}
	slices.SortFunc(all, func(a, b area) int { return cmp.Compare(a.from, b.from) })
	for i, a := range all {
		if i > 0 && all[i-1].meets(a) {
			t.Errorf("%s and %s share memory", all[i-1].what, a.what)
		}
		for _, b := range others {
			if a.meets(b) {
				t.Errorf("%s shares memory with the argument %s", a.what, b.what)
			}
		}
	}
}

// project is files with longer paths, which import each other, and have something
// of everything.
func project() []api.Source {
	return []api.Source{
		{Path: "main/a.proto", Text: rich + importing("main/b.proto +lib/c.proto lib/d.proto")},
		{Path: "main/b.proto", Text: rich + importing("+lib/c.proto")},
		{Path: "lib/c.proto", Text: importless("c.d") + importing("+lib/d.proto")},
		{Path: "lib/d.proto", Text: rich},
		{Path: "wrong/e.proto", Text: importless("e.f") + importing("lib/d.proto wrong/e.proto")},
		{Path: "wrong/f.proto", Text: importless("f.f") + importing("lib/d.proto wrong/z.proto")},
		{Path: "wrong/g.proto", Text: importless("g.f") + importing("lib/d.proto lib/d.proto")},
		{Path: "wrong/h.proto", Text: importless("h.f") + "!"},
	}
}

func importless(name string) string {
	return head + "package " + name + ";"
}

// P6.3: units that are read share no memory with the sources and the roots, nor
// with each other, nor do the units of two calls.
func TestReadIsNewMemory(t *testing.T) {
	l, roots := project(), []string{"main/a.proto", strings.Clone("main/b.proto"), strings.Clone("lib/d.proto")}
	first, _, e := files.Read(l, roots)
	second, _, _ := files.Read(l, roots)
	if e != api.OK || len(first) != 4 {
		t.Fatal(e, told(first))
	}
	apart(t, []any{l, roots}, []any{first, second})
}

// P6.3: the places of errors share no memory with the sources and the roots.
func TestPlacesAreNewMemory(t *testing.T) {
	for root, want := range map[string]api.Errno{
		"wrong/e.proto": api.ErrCycle, "wrong/f.proto": api.ErrMissing, "wrong/g.proto": api.ErrTwice, "wrong/h.proto": api.ErrWord, "wrong/z.proto": api.ErrMissing,
	} {
		l, roots := project(), []string{"lib/d.proto", strings.Clone(root)}
		_, first, e := files.Read(l, roots)
		_, second, _ := files.Read(l, roots)
		if e != want || first.Path != root || second != first {
			t.Errorf("%s: %d, %+v, %+v", root, e, first, second)
		}
		apart(t, []any{l, roots}, []any{first, second})
	}
}

// P6.3: paths share no memory with the units, nor with each other.
func TestPathsAreNewMemory(t *testing.T) {
	l, _, _ := files.Read(project(), []string{"main/a.proto"})
	path := strings.Clone("main/a.proto")
	results := []any{files.Sees(l, path), files.Sees(l, path), files.Order(l), files.Order(l), files.Sees(l, l[2].Path)}
	if fmt.Sprint(results[0], results[2]) != "[lib/c.proto lib/d.proto main/a.proto main/b.proto] [lib/d.proto lib/c.proto main/b.proto main/a.proto]" {
		t.Errorf("%v", results)
	}
	apart(t, []any{l, path}, results)
}

// roomy is a list with room behind it, of which everything is known.
func roomy[T any](l []T, behind T) ([]T, []T) {
	all := append(slices.Clone(l), behind, behind)
	return all[:len(l)], all
}

// P6.3: sources and roots are only read, with what is behind their lists.
func TestSourcesAreOnlyRead(t *testing.T) {
	for _, root := range []string{"main/a.proto", "wrong/e.proto", "wrong/f.proto", "wrong/g.proto", "wrong/h.proto", "z"} {
		l, allSources := roomy(project(), api.Source{Path: "main/a.proto", Text: "behind"})
		roots, allRoots := roomy([]string{"lib/d.proto", root}, "behind")
		before := fmt.Sprint(allSources, allRoots)
		files.Read(l, roots)
		files.Read(l[:1:2], roots)
		files.Read(l, roots[:0])
		files.Read(allSources, roots)
		if fmt.Sprint(allSources, allRoots) != before {
			t.Errorf("%s: %v, %v became of %s", root, allSources, allRoots, before)
		}
	}
}

// P6.3: units are only read, with what is behind all of their lists, whether they
// are valid or not.
func TestUnitsAreOnlyRead(t *testing.T) {
	for _, spoil := range []func(l []api.Unit){
		func(l []api.Unit) {},
		func(l []api.Unit) { l[0], l[1] = l[1], l[0] },
		func(l []api.Unit) { l[3].Tree.Imports[0].Path = "main/b.proto" },
		func(l []api.Unit) { l[3].Tree.Msgs[0].Name = "" },
	} {
		l, _, _ := files.Read(project(), []string{"main/a.proto"})
		l, all := roomy(l, api.Unit{Path: "behind"})
		var imports [][]api.Import
		for i := range l {
			some, more := roomy(l[i].Tree.Imports, api.Import{Path: "behind"})
			l[i].Tree.Imports, imports = some, append(imports, more)
		}
		spoil(l)
		before := fmt.Sprintf("%+v %v", all, imports)
		files.Check(l)
		files.Order(l)
		files.Sees(l, "main/a.proto")
		files.Sees(l, "main/b.proto")
		if now := fmt.Sprintf("%+v %v", all, imports); now != before {
			t.Errorf("%s\nbecame\n%s", before, now)
		}
	}
}

// spoilAll puts something else in each part of a value, and behind each list.
func spoilAll(v reflect.Value) {
	switch v.Kind() {
	case reflect.String:
		v.SetString("spoilt")
	case reflect.Int:
		v.SetInt(-7)
	case reflect.Bool:
		v.SetBool(!v.Bool())
	case reflect.Struct:
		for i := range v.NumField() {
			spoilAll(v.Field(i))
		}
	case reflect.Slice:
		all := v.Slice(0, v.Cap())
		for i := range all.Len() {
			spoilAll(all.Index(i))
		}
	}
}

// P6.3: a result that is changed changes no later result and no argument, and an
// argument that is changed no earlier result.
func TestChangedResults(t *testing.T) {
	l, roots := project(), []string{"main/a.proto"}
	before, asRead := fmt.Sprint(l, roots), ""
	for range 3 {
		got, _, _ := files.Read(l, roots)
		if asRead == "" {
			asRead = told(got)
		}
		seen, order := files.Sees(got, "main/b.proto"), files.Order(got)
		if told(got) != asRead || fmt.Sprint(seen, order) != "[lib/c.proto lib/d.proto main/b.proto] [lib/d.proto lib/c.proto main/b.proto main/a.proto]" {
			t.Errorf("%v, %v of %s", seen, order, told(got))
		}
		for _, paths := range [][]string{seen, order} {
			spoilAll(reflect.ValueOf(&paths).Elem())
		}
		if told(got) != asRead {
			t.Errorf("%s\nbecame\n%s", asRead, told(got))
		}
		seen, order = files.Sees(got, "main/b.proto"), files.Order(got)
		spoilAll(reflect.ValueOf(&got).Elem())
		if fmt.Sprint(seen, order) != "[lib/c.proto lib/d.proto main/b.proto] [lib/d.proto lib/c.proto main/b.proto main/a.proto]" {
			t.Errorf("%v, %v", seen, order)
		}
		if fmt.Sprint(l, roots) != before {
			t.Errorf("%s\nbecame\n%v, %v", before, l, roots)
		}
	}
	got, _, _ := files.Read(l, roots)
	spoilAll(reflect.ValueOf(&l).Elem())
	spoilAll(reflect.ValueOf(&roots).Elem())
	if told(got) != asRead {
		t.Errorf("%s\nbecame\n%s", asRead, told(got))
	}
}

// P6.4: of files whose canonical text is too long, print.Check is not OK; they are
// read, and are not valid.
func TestLongCanonicalText(t *testing.T) {
	start, end := head+`message M{int32 a=1[json_name="`, `"];}`
	canonical, _, _ := print.Tidy(start + "k" + end)
	for _, more := range []int{0, 1, 10} {
		text := start + strings.Repeat("k", 1+api.MaxText-len(canonical)+more) + end
		got := reads(t, append(sources("b: a"), api.Source{Path: "a", Text: text}), "b", "a b")
		if more == 0 {
			accepts(t, "the longest text", got)
		} else {
			refuses(t, "a text that is too long", got)
		}
	}
}

// R1: no call panics, whatever it is given, and each one ends.
func TestNoPanic(t *testing.T) {
	r := rand.New(rand.NewSource(5))
	some := append(noPaths()[:10], "a", "b", "c", "f00", "f01", "f15")
	for seed := range int64(2000) {
		_, l, roots := rooted(seed)
		for range r.Intn(3) {
			l[r.Intn(len(l))].Text = pick(r, []string{"", rich, "\xff", head + importing("a b"), strings.Repeat("\x00", 99)})
			l[r.Intn(len(l))].Path = pick(r, some)
			roots = append(roots, pick(r, some))
		}
		got, at, e := files.Read(l, roots)
		if e != api.OK && got != nil || e == api.OK && at != (api.Where{}) || e == api.ErrArg && at != (api.Where{}) {
			t.Errorf("%d, %+v, %s", e, at, told(got))
		}
		u := randomUnits(r)
		for range r.Intn(3) {
			of := &u[r.Intn(len(u))]
			switch r.Intn(4) {
			case 0:
				of.Path = pick(r, some)
			case 1:
				of.Tree.Imports = append(of.Tree.Imports, api.Import{Path: pick(r, some)})
			case 2:
				of.Tree = api.Tree{Msgs: make([]api.MsgDef, 1)}
			case 3:
				of.Tree = tree.Copy(pick(r, u).Tree)
			}
		}
		isValid := files.Check(u) == api.OK
		if order := files.Order(u); isValid && len(order) != len(u) || !isValid && len(order) != 0 {
			t.Errorf("%v of %s", order, told(u))
		}
		for _, path := range some {
			if seen := files.Sees(u, path); len(seen) > 0 && (!isValid || !slices.Contains(seen, path)) {
				t.Errorf("%v is seen by %s of %s", seen, path, told(u))
			}
		}
	}
}

// R1: arguments as wide and as deep as they may be.
func TestGreatArguments(t *testing.T) {
	wide, long := 1<<20, strings.Repeat("p", 1<<24)
	failsFor(t, make([]api.Source, wide), []string{"a"}, api.ErrArg, "", 0)
	failsFor(t, sources("a:"), make([]string, wide), api.ErrArg, "", 0)
	failsFor(t, sources("a:"), slices.Repeat([]string{"a"}, wide), api.ErrArg, "", 0)
	failsFor(t, sources("a:"), []string{long}, api.ErrMissing, long, 0)
	failsFor(t, []api.Source{{Path: long}}, []string{"a"}, api.ErrArg, "", 0)
	fails(t, []api.Source{{Path: "a", Text: long}}, "a", api.ErrLimit, "a", 0)

	deep := api.MsgDef{Name: "M"}
	for range 1<<16 - 5 {
		deep = api.MsgDef{Name: "M", Msgs: []api.MsgDef{deep}}
	}
	refuses(t, "wide", make([]api.Unit, wide))
	refuses(t, "long", []api.Unit{{Path: long}})
	refuses(t, "wide imports", []api.Unit{{Path: "a", Tree: api.Tree{Imports: slices.Repeat([]api.Import{{Path: "b"}}, wide)}}, {Path: "b"}})
	refuses(t, "long imports", []api.Unit{{Path: "a", Tree: api.Tree{Imports: []api.Import{{Path: long}}}}})
	refuses(t, "deep", []api.Unit{{Path: "a", Tree: api.Tree{Msgs: []api.MsgDef{deep}}}})
	if got := files.Sees(units("a:"), long); len(got) != 0 {
		t.Errorf("a long path sees %v", got)
	}
}

// R1: 16 files of the greatest size, each of which imports all behind it.
func TestGreatFiles(t *testing.T) {
	paths := numbered(api.MaxFiles)
	var l []api.Source
	for i, path := range paths {
		s := head + importing(strings.Join(paths[i+1:], " +"))
		l = append(l, api.Source{Path: path, Text: s + strings.Repeat(";", api.MaxText-len(s))})
	}
	got := reads(t, l, strings.Join(paths, " "), strings.Join(paths, " "))
	accepts(t, "great files", got)
	slices.Reverse(paths)
	ordered(t, got, strings.Join(paths, " "))
}

// allResults is the results of calls for files, as a text that can be compared.
func allResults(l []api.Source, roots []string) string {
	got, at, e := files.Read(l, roots)
	s := fmt.Sprint(told(got), at, e, files.Check(got), files.Order(got))
	for _, u := range got {
		s += fmt.Sprint(files.Sees(got, u.Path))
	}
	return s
}

// R2: a call returns the same again, after other calls and beside them.
func TestSameResultAgain(t *testing.T) {
	const count = 300
	var results []string
	for seed := range int64(count) {
		_, l, roots := rooted(seed)
		results = append(results, allResults(l, roots))
	}
	_, shared, sharedRoots := rooted(count)
	sharedResult := allResults(shared, sharedRoots)
	var wait sync.WaitGroup
	for range 4 {
		wait.Go(func() {
			for seed := range int64(count) {
				if _, l, roots := rooted(seed); allResults(l, roots) != results[seed] || allResults(shared, sharedRoots) != sharedResult {
					t.Errorf("another result for %v", l)
				}
			}
		})
	}
	wait.Wait()
}
