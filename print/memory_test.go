package print_test

import (
	"fmt"
	"math/rand"
	"reflect"
	"slices"
	"strings"
	"sync"
	"testing"
	"unsafe"

	"signetry/api"
	"signetry/print"
	"signetry/tree"
)

// area is memory, from one address up to another.
type area struct{ from, to uintptr }

func areaOf(s string) area {
	from := uintptr(unsafe.Pointer(unsafe.StringData(s)))
	return area{from, from + uintptr(len(s))}
}

func (a area) meets(b area) bool {
	return a.from < b.to && b.from < a.to
}

// roomy is the whole tree with unused capacity behind all of its lists, of
// which everything is known.
func roomy() (api.Tree, func() string) {
	of := wholeTree()
	var behind []reflect.Value
	eachPart(reflect.ValueOf(&of).Elem(), "", func(_ string, v reflect.Value) {
		if v.Kind() == reflect.Slice {
			all := reflect.MakeSlice(v.Type(), v.Len()+3, v.Len()+3)
			reflect.Copy(all, v)
			behind = append(behind, all)
			v.Set(all.Slice(0, v.Len()))
		}
	})
	return of, func() string {
		var l []string
		for _, v := range behind {
			l = append(l, fmt.Sprintf("%+v", v))
		}
		return told(of) + strings.Join(l, "\n")
	}
}

// P5.3: trees are only read, with what is behind their lists, whether they are
// valid or not.
func TestTreesAreOnlyRead(t *testing.T) {
	for _, spoil := range []func(of *api.Tree){
		func(of *api.Tree) {},
		func(of *api.Tree) { of.Svcs[1].Rpcs[1].Out = "" },
		func(of *api.Tree) { of.Msgs[0].Fields[0].Json = strings.Repeat("\x00", api.MaxText) },
		func(of *api.Tree) { of.Msgs[0].Fields[1].Oneof = 2 },
	} {
		of, all := roomy()
		spoil(&of)
		before := all()
		print.Check(of)
		print.Text(of)
		if all() != before {
			t.Errorf("the tree became %s", told(of))
		}
	}
}

// P5.3: texts are only read, and results are new memory.
func TestNewMemory(t *testing.T) {
	for seed := range int64(200) {
		of := treeOf(seed)
		first, _ := print.Text(of)
		s := strings.Clone(first)
		tidy, _, _ := print.Tidy(s)
		again, _ := print.Text(of)
		others := []area{areaOf(first), areaOf(s), areaOf(tidy), areaOf(again)}
		for i, a := range others {
			for _, b := range others[:i] {
				if a.meets(b) {
					t.Errorf("two texts share memory: %q", s)
				}
			}
		}
		eachPart(reflect.ValueOf(of), "", func(name string, v reflect.Value) {
			if v.Kind() == reflect.String && v.Len() > 1 && slices.ContainsFunc(others, areaOf(v.String()).meets) {
				t.Errorf("%s shares memory with a text", name)
			}
		})
		if s != first || tidy != first {
			t.Errorf("%q became %q, and has %q", first, s, tidy)
		}
	}
}

// P5.3: a text stays what it is when the tree is changed that it was made from.
func TestTextsStay(t *testing.T) {
	of := wholeTree()
	s, _ := print.Text(of)
	before := strings.Clone(s)
	eachPart(reflect.ValueOf(&of).Elem(), "", func(_ string, v reflect.Value) {
		switch v.Kind() {
		case reflect.String:
			v.SetString("spoilt")
		case reflect.Int:
			v.SetInt(-7)
		}
	})
	print.Text(of)
	print.Tidy(before)
	if s != before {
		t.Errorf("%q became %q", before, s)
	}
}

// R1: no call panics, whatever it is given.
func TestNoPanic(t *testing.T) {
	r := rand.New(rand.NewSource(4))
	known := []api.Errno{api.OK, api.ErrArg, api.ErrLimit}
	for seed := range int64(1500) {
		of := treeOf(seed)
		for range 1 + r.Intn(20) {
			spoil(r, &of)
		}
		s, e := print.Text(of)
		if !slices.Contains(known, e) || e != print.Check(of) || (s == "") != (e != api.OK) {
			t.Errorf("%d, %q of %s", e, s, told(of))
		}
		noise := make([]byte, r.Intn(20))
		r.Read(noise)
		print.Tidy(string(noise))
		print.Tidy(head + string(noise))
		print.Tidy(s[:r.Intn(len(s)+1)])
	}
}

// R1: trees that Parse never returns: without anything in their parts, as deep
// and as wide as an argument may be.
func TestStrangeTrees(t *testing.T) {
	wide := 1 << 20
	for what, of := range map[string]api.Tree{
		"imports": {Imports: make([]api.Import, wide)}, "messages": {Msgs: make([]api.MsgDef, wide)}, "enums": {Enums: make([]api.EnumDef, wide)}, "services": {Svcs: make([]api.SvcDef, wide)},
		"one import": {Imports: make([]api.Import, 1)}, "one message": {Msgs: make([]api.MsgDef, 1)}, "one enum": {Enums: make([]api.EnumDef, 1)}, "one service": {Svcs: make([]api.SvcDef, 1)},
		"one field":   {Msgs: []api.MsgDef{{Name: "M", Fields: make([]api.FieldDef, 1)}}},
		"deep":        nested(1<<16-3, api.MsgDef{Name: "M"}),
		"a long name": {Package: strings.Repeat("a.", 1<<23) + "a"},
		"a long type": nested(0, oneField(api.FieldDef{Name: "a", Type: strings.Repeat("a.", 1<<23) + "a", Card: api.Opt, Num: 1, Oneof: -1}, 0)),
		"a long path": {Imports: []api.Import{{Path: strings.Repeat("a", 1<<24)}}},
	} {
		refuses(t, what, of, api.ErrArg)
	}
}

// R1: texts of the greatest size take no longer than their size asks for.
func TestGreatTexts(t *testing.T) {
	for _, start := range []string{"", head, head + "message M{", head + "message M{oneof o{", head + "message M{reserved ", head + "enum E{reserved "} {
		for _, part := range []string{";", "message M{", "message M{}", "enum E{}", "1,", "'a',", "a b=1;", "A=0;", "oneof o{}", "}", "import'a';", "service S{}"} {
			print.Tidy(start + strings.Repeat(part, (api.MaxText-len(start))/len(part)))
		}
	}
}

// R2: a call returns the same again, after other calls and beside them.
func TestSameResultAgain(t *testing.T) {
	r := rand.New(rand.NewSource(5))
	var trees []api.Tree
	var results []string
	for seed := range int64(300) {
		of := treeOf(seed)
		if seed%2 == 0 {
			spoil(r, &of)
		}
		trees, results = append(trees, of), append(results, all(of))
	}
	var wait sync.WaitGroup
	for range 4 {
		wait.Go(func() {
			for i, of := range trees {
				if all(of) != results[i] || all(tree.Copy(of)) != results[i] {
					t.Errorf("another result for %s", told(of))
				}
			}
		})
	}
	wait.Wait()
}

// all is the results of calls for a tree, as a text that can be compared.
func all(of api.Tree) string {
	s, e := print.Text(of)
	plainText := plain(of)
	tidy, at, e2 := print.Tidy(plainText)
	return fmt.Sprint(s, e, print.Check(of), tidy, at, e2)
}
