package tree_test

import (
	"reflect"
	"testing"

	"signetry/api"
	"signetry/tree"
)

// wholeTree is a tree in which every list has two elements or more, no two of
// which are the same, and no part is zero.
func wholeTree() api.Tree {
	text := func(s string, at int) []api.Text { return []api.Text{{S: s, At: at}, {S: s + "2", At: at + 1}} }
	spans := []api.Span{{Lo: 1, Hi: 2, At: 3}, {Lo: 4, Hi: 5, At: 6}}
	fields := []api.FieldDef{
		{Name: "a", Type: "b", Key: "c", Json: "d", Card: api.Map, Num: 1, Oneof: -1, At: 2, TypeAt: 3, NumAt: 4},
		{Name: "e", Type: "f", Key: "g", Json: "h", Card: api.Rep, Num: 5, Oneof: 1, At: 6, TypeAt: 7, NumAt: 8},
	}
	enum := func(name string) api.EnumDef {
		return api.EnumDef{Name: name, At: 5, Values: []api.ValueDef{{Name: "A", Num: 1, At: 2}, {Name: "B", Num: -1, At: 3}}, Ranges: spans, Names: text("n", 3)}
	}
	message := func(name string, inner ...api.MsgDef) api.MsgDef {
		return api.MsgDef{Name: name, At: 7, Fields: fields, Oneofs: text("o", 1), Msgs: inner, Enums: []api.EnumDef{enum("E"), enum("F")}, Ranges: spans, Names: text("r", 9)}
	}
	service := func(name string) api.SvcDef {
		return api.SvcDef{Name: name, At: 1, Rpcs: []api.RpcDef{{Name: "F", In: "M", Out: "N", At: 1, InAt: 2, OutAt: 3}, {Name: "G", In: "O", Out: "P", At: 4, InAt: 5, OutAt: 6}}}
	}
	return api.Tree{
		Package: "p.q", Imports: []api.Import{{Path: "i", Public: true, At: 1}, {Path: "j", Public: true, At: 2}},
		Msgs:  []api.MsgDef{message("M", message("N", message("O"), message("P")), message("Q")), message("R")},
		Enums: []api.EnumDef{enum("E"), enum("F")}, Svcs: []api.SvcDef{service("S"), service("T")},
	}
}

// ownTree is the same in memory that it shares with nothing, so that a part of
// it can be changed.
func ownTree() api.Tree {
	t := wholeTree()
	deepCopy(reflect.ValueOf(&t).Elem())
	return t
}

// deepCopy gives each list memory of its own.
func deepCopy(v reflect.Value) {
	switch v.Kind() {
	case reflect.Struct:
		for i := range v.NumField() {
			deepCopy(v.Field(i))
		}
	case reflect.Slice:
		l := reflect.MakeSlice(v.Type(), v.Len(), v.Len())
		reflect.Copy(l, v)
		v.Set(l)
		for i := range v.Len() {
			deepCopy(v.Index(i))
		}
	}
}

// parts is how many parts the whole tree has.
func parts() (n int) {
	t := wholeTree()
	eachPart(reflect.ValueOf(&t).Elem(), "", func(string, reflect.Value) { n++ })
	return n
}

// with is the whole tree with its part number n changed, and what that part is.
func with(n int, change func(v reflect.Value)) (api.Tree, string) {
	t, i, name := ownTree(), 0, ""
	var part reflect.Value
	eachPart(reflect.ValueOf(&t).Elem(), "", func(where string, v reflect.Value) {
		if i == n {
			part, name = v, where
		}
		i++
	})
	change(part)
	return t, name
}

// changes is the ways to change a part, by its kind.
func changes(v reflect.Value) (l []func(v reflect.Value)) {
	switch v.Kind() {
	case reflect.String:
		l = append(l, func(v reflect.Value) { v.SetString(v.String() + "x") }, func(v reflect.Value) { v.SetString("") }, func(v reflect.Value) { v.SetString("Z") })
	case reflect.Int:
		l = append(l, func(v reflect.Value) { v.SetInt(v.Int() + 1) }, func(v reflect.Value) { v.SetInt(-v.Int() - 1) }, func(v reflect.Value) { v.SetInt(v.Int() + 1<<32) })
	case reflect.Bool:
		l = append(l, func(v reflect.Value) { v.SetBool(!v.Bool()) })
	case reflect.Slice:
		l = append(l,
			func(v reflect.Value) { v.Set(reflect.Append(v, reflect.Zero(v.Type().Elem()))) },
		)
		if v.Len() > 0 {
			l = append(l,
				func(v reflect.Value) { v.Set(v.Slice(0, v.Len()-1)) },
				func(v reflect.Value) { v.Set(v.Slice(1, v.Len())) },
				func(v reflect.Value) { v.Set(reflect.Zero(v.Type())) },
				func(v reflect.Value) { v.Set(reflect.AppendSlice(v, v.Slice(0, 1))) },
				func(v reflect.Value) { reflect.Swapper(v.Interface())(0, 1) },
			)
		}
	}
	return l
}

// P4.2: each part of a tree, changed: Same notices it unless it is an offset.
func TestSameNoticesEachPart(t *testing.T) {
	whole := wholeTree()
	for n := range parts() {
		part, where := with(n, func(reflect.Value) {})
		if !tree.Same(whole, part) {
			t.Fatalf("%s is another", where)
		}
		var all []func(reflect.Value)
		with(n, func(v reflect.Value) { all = changes(v) })
		for i, change := range all {
			other, where := with(n, change)
			want := isOffset(where)
			if tree.Same(whole, other) != want || tree.Same(other, whole) != want || !tree.Same(other, other) {
				t.Errorf("%s, change %d: %v", where, i, !want)
			}
		}
	}
}

// P4.2: all offsets at once make no difference.
func TestSameWithoutOffsets(t *testing.T) {
	other := ownTree()
	eachPart(reflect.ValueOf(&other).Elem(), "", func(where string, v reflect.Value) {
		if isOffset(where) {
			v.SetInt(-99)
		}
	})
	if !tree.Same(wholeTree(), other) || !tree.Same(other, wholeTree()) {
		t.Error("offsets make a difference")
	}
}

// P4.2: nil and empty lists are the same, in all places.
func TestSameWithEmptyLists(t *testing.T) {
	for n := range parts() {
		empty := func(v reflect.Value) {
			if v.Kind() == reflect.Slice {
				v.Set(reflect.MakeSlice(v.Type(), 0, 3))
			}
		}
		none := func(v reflect.Value) {
			if v.Kind() == reflect.Slice {
				v.Set(reflect.Zero(v.Type()))
			}
		}
		a, where := with(n, empty)
		b, _ := with(n, none)
		if !tree.Same(a, b) || !tree.Same(b, a) || !tree.Same(tree.Copy(a), b) || !tree.Same(tree.Bare(b), a) {
			t.Errorf("%s: nil is not empty", where)
		}
	}
	if !tree.Same(api.Tree{}, api.Tree{Msgs: []api.MsgDef{}, Imports: []api.Import{}, Enums: []api.EnumDef{}, Svcs: []api.SvcDef{}}) {
		t.Error("nil is not empty")
	}
}

// P4.2: a copy has everything; a bare one everything but offsets, which are 0.
func TestCopyAndBare(t *testing.T) {
	for n := range parts() {
		var all []func(reflect.Value)
		with(n, func(v reflect.Value) { all = append(changes(v), func(reflect.Value) {}) })
		for _, change := range all {
			of, where := with(n, change)
			if got := tree.Copy(of); told(got) != told(of) || !tree.Same(got, of) {
				t.Fatalf("%s: %s, want %s", where, told(got), told(of))
			}
			want := told(withoutOffsets(of))
			if got := tree.Bare(of); told(got) != want || !tree.Same(got, of) {
				t.Fatalf("%s: %s, want %s", where, told(got), want)
			}
		}
	}
	for _, f := range []func(api.Tree) api.Tree{tree.Copy, tree.Bare} {
		if got := f(api.Tree{}); told(got) != told(api.Tree{}) {
			t.Errorf("of nothing: %s", told(got))
		}
	}
}

// withoutOffsets is a tree whose offsets are 0, in memory of its own.
func withoutOffsets(t api.Tree) api.Tree {
	deepCopy(reflect.ValueOf(&t).Elem())
	eachPart(reflect.ValueOf(&t).Elem(), "", func(where string, v reflect.Value) {
		if isOffset(where) {
			v.SetInt(0)
		}
	})
	return t
}

// P4.2: trees of files: Same goes by what Bare leaves.
func TestSameAsBare(t *testing.T) {
	var all []api.Tree
	for _, s := range append(samples(), head+"message M{a b=1;}", head+"message M{optional a b=1;}", head+"message M{oneof o{a b=1;}}", head+"message M{a b=1[json_name='b'];}", head+"message M{ a b = 01;}", head+"enum E{reserved 1;}", head+"enum E{reserved 1 to 1;}", head+"enum E{reserved-0;}", head+"enum E{reserved 0;}") {
		if got, _, e := tree.Parse(s); e == api.OK {
			all = append(all, got)
		}
	}
	same := 0
	for i, a := range all {
		for k, b := range all {
			want := told(tree.Bare(a)) == told(tree.Bare(b))
			if tree.Same(a, b) != want {
				t.Errorf("%d, %d: %v", i, k, !want)
			}
			if want {
				same++
			}
		}
	}
	// Three pairs are, in both orders: the first field and the one with blanks,
	// the range of one number, and the 0 with a minus.
	if same != len(all)+6 {
		t.Errorf("%d of %d are the same", same, len(all))
	}
}
