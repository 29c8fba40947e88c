package tree_test

import (
	"fmt"
	"math/rand"
	"reflect"
	"slices"
	"strings"
	"sync"
	"testing"
	"unsafe"

	"signetry/api"
	"signetry/tree"
)

// area is memory, from one address up to another.
type area struct{ from, to uintptr }

// areas is those of a tree: of its lists, with their unused capacity, and of its
// strings, but for those of one byte, which the language keeps itself.
func areas(t *api.Tree) (lists, texts []area) {
	eachPart(reflect.ValueOf(t).Elem(), "", func(_ string, v reflect.Value) {
		if v.Kind() == reflect.Slice && v.Cap() > 0 {
			lists = append(lists, area{v.Pointer(), v.Pointer() + uintptr(v.Cap())*v.Type().Elem().Size()})
		}
		if v.Kind() == reflect.String && v.Len() > 1 {
			texts = append(texts, areaOf(v.String()))
		}
	})
	return lists, texts
}

func areaOf(s string) area {
	from := uintptr(unsafe.Pointer(unsafe.StringData(s)))
	return area{from, from + uintptr(len(s))}
}

// overlap tells whether two of these areas have memory in common.
func overlap(l []area) bool {
	l = slices.Clone(l)
	slices.SortFunc(l, func(a, b area) int { return int(a.from) - int(b.from) })
	for i := 1; i < len(l); i++ {
		if l[i].from < l[i-1].to {
			return true
		}
	}
	return false
}

// touches tells whether areas of one have memory in common with areas of the
// other.
func touches(one, other []area) bool {
	for _, a := range one {
		for _, b := range other {
			if a.from < b.to && b.from < a.to {
				return true
			}
		}
	}
	return false
}

// apart checks that a result shares no memory with areas that are not its own,
// and that no two of its lists share any.
func apart(t *testing.T, what string, result api.Tree, others ...area) {
	t.Helper()
	lists, texts := areas(&result)
	if overlap(lists) {
		t.Errorf("%.80s: two lists share memory", what)
	}
	if touches(append(lists, texts...), others) {
		t.Errorf("%.80s: the result shares memory", what)
	}
}

// P4.3: a tree shares no memory with its text, nor with another tree, and no two
// of its lists share any; the text is only read.
func TestParseMemory(t *testing.T) {
	texts := samples()
	for seed := range int64(300) {
		s, _ := fileOf(seed)
		texts = append(texts, s)
	}
	for _, s := range texts {
		text := string([]byte(s))
		first, _, _ := tree.Parse(text)
		second, _, _ := tree.Parse(text)
		lists, strings := areas(&first)
		apart(t, s, first, areaOf(text))
		apart(t, s, second, append(append(lists, strings...), areaOf(text))...)
		if text != s {
			t.Errorf("%q became %q", s, text)
		}
	}
}

// P4.3: what is done to one result is not seen in another one.
func TestNewResults(t *testing.T) {
	for _, s := range samples() {
		first, _, _ := tree.Parse(s)
		want := told(first)
		for _, f := range []func() api.Tree{
			func() api.Tree { l, _, _ := tree.Parse(s); return l },
			func() api.Tree { return tree.Copy(first) },
			func() api.Tree { return tree.Bare(first) },
		} {
			before := told(f())
			other := f()
			eachPart(reflect.ValueOf(&other).Elem(), "", func(_ string, v reflect.Value) {
				switch v.Kind() {
				case reflect.String:
					v.SetString("spoilt")
				case reflect.Int:
					v.SetInt(-7)
				}
			})
			if told(first) != want || told(f()) != before {
				t.Errorf("%q: a result became %s", s, told(first))
			}
		}
	}
}

// looseTree is the whole tree with longer strings, of its own, and with unused
// capacity in its lists.
func looseTree() api.Tree {
	t := wholeTree()
	loosen(reflect.ValueOf(&t).Elem())
	return t
}

func loosen(v reflect.Value) {
	switch v.Kind() {
	case reflect.String:
		v.SetString(strings.Repeat(v.String(), 9))
	case reflect.Struct:
		for i := range v.NumField() {
			loosen(v.Field(i))
		}
	case reflect.Slice:
		l := reflect.MakeSlice(v.Type(), v.Len(), v.Len()+3)
		reflect.Copy(l, v)
		v.Set(l)
		for i := range v.Len() {
			loosen(v.Index(i))
		}
	}
}

// P4.3: Copy and Bare share no memory with their argument, and only read it, as
// Same does.
func TestCopyMemory(t *testing.T) {
	of := looseTree()
	lists, texts := areas(&of)
	other := append(lists, texts...)
	want := told(of)
	apart(t, "Copy", tree.Copy(of), other...)
	apart(t, "Bare", tree.Bare(of), other...)
	tree.Same(of, tree.Bare(of))
	tree.Same(tree.Bare(of), of)
	if told(of) != want {
		t.Errorf("the argument became %s", told(of))
	}
	// Lists that are empty, and have only unused capacity.
	eachPart(reflect.ValueOf(&of).Elem(), "", func(_ string, v reflect.Value) {
		if v.Kind() == reflect.Slice && strings.Contains(v.Type().String(), "Msg") {
			v.SetLen(0)
		}
	})
	lists, texts = areas(&of)
	apart(t, "Copy of empty lists", tree.Copy(of), append(lists, texts...)...)
	// One list in many places of the argument.
	shared := []api.MsgDef{{Name: "M"}, {Name: "N"}}
	apart(t, "Copy of shared lists", tree.Copy(api.Tree{Msgs: []api.MsgDef{{Msgs: shared}, {Msgs: shared}, {Msgs: shared[:1]}}}))
}

// R1: no call panics, whatever it is given; where it finds an error is within
// the text.
func TestNoPanic(t *testing.T) {
	r := rand.New(rand.NewSource(1))
	known := []api.Errno{api.OK, api.ErrLimit, api.ErrRange, api.ErrQuote, api.ErrWord, api.ErrSyntax, api.ErrDeep}
	for range 10000 {
		noise := make([]byte, r.Intn(20))
		r.Read(noise)
		tokens := ""
		for range r.Intn(20) {
			tokens += pick(r, alphabet()) + " "
		}
		for _, s := range []string{string(noise), tokens, head + string(noise), head + tokens, head + "message M{" + tokens, head + "enum E{" + tokens, head + "service S{rpc " + tokens} {
			got, at, e := tree.Parse(s)
			if !slices.Contains(known, e) || at < 0 || at > len(s) || e == api.OK && at != 0 || e != api.OK && told(got) != told(api.Tree{}) {
				t.Fatalf("Parse(%q): %d, %d, %s", s, at, e, told(got))
			}
			tree.IsPath(s)
		}
	}
}

// R1: texts of the greatest size take no longer than their size asks for.
func TestGreatTexts(t *testing.T) {
	for _, start := range []string{"", head, head + "package ", head + "message M{", head + "message M{oneof o{", head + "message M{reserved ", head + "enum E{", head + "enum E{reserved ", head + "service S{", head + "message M{map<"} {
		for _, part := range []string{";", "{", "message M{", "message M{}", "enum E{}", "a.", ".a", "-", "1,", "1 to 2,", "'a',", "a b=1;", "A=0;", "rpc F(M)returns(N);", "oneof o{", "}", "import'a';", "service S{}"} {
			s := start + strings.Repeat(part, (api.MaxText-len(start))/len(part))
			got, _, _ := tree.Parse(s)
			tree.Same(got, tree.Copy(got))
		}
	}
}

// R1: Same, Copy and Bare take trees that Parse never returns.
func TestStrangeTrees(t *testing.T) {
	deep := api.MsgDef{Name: "M", At: 1}
	for range 1<<16 - 2 {
		deep = api.MsgDef{Name: "M", At: 1, Msgs: []api.MsgDef{deep}}
	}
	wide := api.Tree{Package: "\xff", Imports: make([]api.Import, 5000), Msgs: make([]api.MsgDef, 5000), Enums: make([]api.EnumDef, 5000), Svcs: make([]api.SvcDef, 5000)}
	for _, of := range []api.Tree{{Msgs: []api.MsgDef{deep}}, wide, {Msgs: []api.MsgDef{{Fields: []api.FieldDef{{Card: -1, Num: -1 << 63, Oneof: 1 << 62, At: -1}}}}}} {
		if !tree.Same(of, tree.Copy(of)) || !tree.Same(tree.Bare(of), of) || tree.Same(of, api.Tree{}) {
			t.Errorf("a tree of %d messages is not the same as its copy", len(of.Msgs))
		}
	}
}

// R2: a call returns the same again, after other calls and beside them.
func TestSameResultAgain(t *testing.T) {
	r := rand.New(rand.NewSource(2))
	var inputs, results []string
	for seed := range int64(300) {
		s, _ := fileOf(seed, someGaps()...)
		for _, s := range []string{s, s[:r.Intn(len(s))], anyFile(r, 40, 0.05)} {
			inputs, results = append(inputs, s), append(results, all(s))
		}
	}
	var wait sync.WaitGroup
	for range 4 {
		wait.Go(func() {
			for i, s := range inputs {
				if all(s) != results[i] {
					t.Errorf("%q: another result", s)
				}
			}
		})
	}
	wait.Wait()
}

// all is the results of calls for s, as a text that can be compared.
func all(s string) string {
	got, at, e := tree.Parse(s)
	return fmt.Sprint(told(got), at, e, told(tree.Copy(got)), told(tree.Bare(got)), tree.Same(got, tree.Bare(got)), tree.IsPath(s))
}
