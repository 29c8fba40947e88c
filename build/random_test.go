package build_test

import (
	"math/rand"
	"reflect"
	"slices"
	"strings"
	"testing"

	"signetry/api"
	"signetry/build"
	"signetry/files"
	"signetry/lex"
	"signetry/print"
)

// spread is a text with gaps between its tokens.
func spread(r *rand.Rand, s string) string {
	gaps := []string{" ", "\n", "/* message M{} */", "\t// enum E{\n", "\r\n", "/**/", " \t "}
	words, _, e := lex.Words(s)
	if e != api.OK {
		panic(s)
	}
	var b strings.Builder
	for i, w := range words {
		b.WriteString(pick(r, gaps))
		if i+1 < len(words) {
			b.WriteString(strings.TrimRight(s[w.At:words[i+1].At], " \n"))
		}
	}
	return b.String()
}

// buildsAs checks that files are built as a set.
func buildsAs(t *testing.T, what string, l []api.Source, roots []string, want api.Set) {
	t.Helper()
	s, at, e := build.Build(l, roots)
	if e != api.OK || at != (api.Where{}) || !deepEqual(s, want) || !build.Same(s, want) {
		t.Errorf("%s: %d at %v of %q\n%s\nwant\n%s", what, e, at, l, strings.Join(told(s), "\n"), strings.Join(told(want), "\n"))
	}
}

// P9.1: random files are built as the second way links them.
func TestRandomFiles(t *testing.T) {
	t.Parallel()
	r := rand.New(rand.NewSource(1))
	references := 0
	for range 500 {
		l := randomSources(r)
		units, _, e := files.Read(l, pathsOf(l))
		if e != api.OK {
			t.Fatal(e)
		}
		want := secondLink(units)
		buildsAs(t, "read", l, pathsOf(l), want)
		if s, at, e := build.Link(units); e != api.OK || at != (api.Where{}) || !deepEqual(s, want) {
			t.Errorf("%d at %v of %q", e, at, l)
		}
		for _, m := range want.Msgs {
			for _, x := range m.Fields {
				if x.Ref != "" {
					references++
				}
			}
		}
	}
	if references < 2500 {
		t.Errorf("only %d fields refer to something", references)
	}
}

// P9.4: a set that is built is valid, and those of its files that one of them
// requires are, too.
func TestBuiltSetsAreValid(t *testing.T) {
	t.Parallel()
	r := rand.New(rand.NewSource(2))
	for range 500 {
		l := randomSources(r)
		for _, root := range pathsOf(l) {
			s, _, e := build.Build(l, []string{root})
			if e != api.OK || build.Check(s) != api.OK || len(secondWrong(s)) > 0 {
				t.Errorf("%d, %d, %q of %q", e, build.Check(s), secondWrong(s), l)
			}
		}
	}
}

// P9.4: sets do not depend on the order of sources and roots, nor on blanks.
func TestOrderOfSources(t *testing.T) {
	t.Parallel()
	r := rand.New(rand.NewSource(3))
	for range 500 {
		l := randomSources(r)
		want, _, _ := build.Build(l, pathsOf(l))
		roots := append(pathsOf(l), pick(r, pathsOf(l)))
		r.Shuffle(len(l), func(i, j int) { l[i], l[j] = l[j], l[i] })
		r.Shuffle(len(roots), func(i, j int) { roots[i], roots[j] = roots[j], roots[i] })
		buildsAs(t, "shuffled", l, roots, want)
		for i := range l {
			l[i].Text = spread(r, l[i].Text)
		}
		buildsAs(t, "spread", l, roots, want)
	}
}

// P9.4: sets do not depend on the order of messages, enums, services and fields,
// nor on that of what is reserved.
func TestOrderOfElements(t *testing.T) {
	t.Parallel()
	r := rand.New(rand.NewSource(4))
	changed := 0
	for range 500 {
		l := randomSources(r)
		want, _, _ := build.Build(l, pathsOf(l))
		units := unitsOf(l)
		for i := range units {
			shuffleTree(r, &units[i].Tree)
		}
		other := textsOf(units)
		if !slices.Equal(l, other) {
			changed++
		}
		buildsAs(t, "shuffled", other, pathsOf(other), want)
	}
	if changed < 250 {
		t.Errorf("only %d are changed", changed)
	}
}

func shuffle[T any](r *rand.Rand, l []T) {
	r.Shuffle(len(l), func(i, j int) { l[i], l[j] = l[j], l[i] })
}

func shuffleTree(r *rand.Rand, t *api.Tree) {
	shuffle(r, t.Msgs)
	shuffle(r, t.Enums)
	shuffle(r, t.Svcs)
	shuffleInside(r, t.Msgs, t.Enums)
}

func shuffleInside(r *rand.Rand, messages []api.MsgDef, enums []api.EnumDef) {
	for i := range messages {
		m := &messages[i]
		m.Fields = shuffledFields(r, m.Fields)
		shuffle(r, m.Msgs)
		shuffle(r, m.Enums)
		shuffle(r, m.Ranges)
		shuffle(r, m.Names)
		shuffleInside(r, m.Msgs, m.Enums)
	}
	for _, n := range enums {
		shuffle(r, n.Ranges)
		shuffle(r, n.Names)
	}
}

// shuffledFields is fields in another order: those of a oneof stay beside each
// other, and those of different oneofs in their order, as in each text.
func shuffledFields(r *rand.Rand, l []api.FieldDef) (out []api.FieldDef) {
	shuffle(r, l)
	oneofs := map[int][]api.FieldDef{}
	for _, f := range l {
		oneofs[f.Oneof] = append(oneofs[f.Oneof], f)
	}
	next := 0
	for _, f := range l {
		switch {
		case f.Oneof == -1:
			out = append(out, f)
		default:
			out = append(out, oneofs[next]...)
			next++
		}
	}
	return out
}

// P9.4: but they depend on the names of oneofs and on the values of enums, in
// their order, and on all else.
func TestWhatMatters(t *testing.T) {
	want := built(t, "a: message M{oneof a{int32 x=1;}oneof b{int32 y=2;}}enum E{Z=0;A=1;B=2;}message N{}service S{rpc a(M)returns(M);rpc b(M)returns(M);}")
	for _, line := range []string{
		"a: message M{oneof b{int32 y=2;}oneof a{int32 x=1;}}enum E{Z=0;A=1;B=2;}message N{}service S{rpc a(M)returns(M);rpc b(M)returns(M);}",
		"a: message M{oneof a{int32 x=1;}oneof b{int32 y=2;}}enum E{Z=0;B=2;A=1;}message N{}service S{rpc a(M)returns(M);rpc b(M)returns(M);}",
		"a: message M{oneof a{int32 x=1;}oneof b{int32 y=2;}}enum E{Z=0;A=1;B=2;}message N{}service S{rpc b(M)returns(M);rpc a(M)returns(M);}",
		"b: message M{oneof a{int32 x=1;}oneof b{int32 y=2;}}enum E{Z=0;A=1;B=2;}message N{}service S{rpc a(M)returns(M);rpc b(M)returns(M);}",
		"a: message M{oneof a{int32 x=1;}oneof b{int32 y=2;}}enum E{Z=0;A=1;B=2;}message N{}service S{rpc a(M)returns(M);rpc b(M)returns(N);}",
		"a: message M{oneof a{int32 x=1;}oneof b{int64 y=2;}}enum E{Z=0;A=1;B=2;}message N{}service S{rpc a(M)returns(M);rpc b(M)returns(M);}",
		"a: message M{oneof a{int32 x=1;}oneof b{int32 y=2;}}enum E{Z=0;A=1;B=3;}message N{}service S{rpc a(M)returns(M);rpc b(M)returns(M);}",
	} {
		if s := built(t, line); build.Same(s, want) || deepEqual(s, want) {
			t.Errorf("%s is the same", line)
		}
	}
}

// P9.5: a canonical text is built as the same set.
func TestCanonicalTexts(t *testing.T) {
	t.Parallel()
	r := rand.New(rand.NewSource(5))
	for range 500 {
		l := randomSources(r)
		for i := range l {
			l[i].Text = spread(r, l[i].Text)
		}
		want, _, _ := build.Build(l, pathsOf(l))
		for i := range l {
			tidy, _, e := print.Tidy(l[i].Text)
			if e != api.OK || tidy == l[i].Text {
				t.Fatal(e, l[i].Text)
			}
			l[i].Text = tidy
		}
		buildsAs(t, "tidy", l, pathsOf(l), want)
	}
}

// parts is all numbers, texts, bools and lists in a value.
func parts(v reflect.Value) (l []reflect.Value) {
	switch v.Kind() {
	case reflect.Struct:
		for i := range v.NumField() {
			l = append(l, parts(v.Field(i))...)
		}
	case reflect.Slice, reflect.Array:
		for i := range v.Len() {
			l = append(l, parts(v.Index(i))...)
		}
		if v.Kind() == reflect.Slice {
			l = append(l, v)
		}
	default:
		l = append(l, v)
	}
	return l
}

// spoil changes something in a set that shares no memory with another one.
func spoil(r *rand.Rand, s *api.Set) {
	all := parts(reflect.ValueOf(s).Elem())
	if r.Intn(20) == 0 && len(s.Files) > 0 {
		f := &s.Files[r.Intn(len(s.Files))]
		f.Imports = append(f.Imports, api.Import{Path: pick(r, s.Files).Path, Public: r.Intn(2) == 0})
		return
	}
	switch v := pick(r, all); v.Kind() {
	case reflect.Bool:
		v.SetBool(!v.Bool())
	case reflect.Int:
		v.SetInt(otherNumber(r, all, v.Int()))
	case reflect.String:
		v.SetString(otherText(r, all, v.String()))
	case reflect.Slice:
		spoilList(r, v)
	}
}

func otherNumber(r *rand.Rand, all []reflect.Value, n int64) int64 {
	switch o := pick(r, all); {
	case r.Intn(3) == 0:
		return n + int64(r.Intn(5)) - 2
	case o.Kind() == reflect.Int:
		return o.Int()
	}
	return pick(r, []int64{0, -1, 1, 2, 3, 4, 5, 8, 9, 10, 11, 12, 14, 18, 19, 18999, 19000, 19999, 20000, 1<<29 - 1, 1 << 29, 1<<31 - 1, 1 << 31, -1 << 31, -1<<31 - 1, 1<<63 - 1, -1 << 63})
}

func otherText(r *rand.Rand, all []reflect.Value, s string) string {
	switch o := pick(r, all); {
	case o.Kind() == reflect.String && r.Intn(2) == 0:
		return o.String()
	case r.Intn(3) == 0:
		return s + pick(r, []string{"x", ".x", "_", "."})
	case r.Intn(3) == 0:
		return s[strings.IndexByte(s, '.')+1:]
	}
	return pick(r, []string{"", "a", "A", "1a", "_", "a.b", "p", "p.A", "p.M", "E", "reserved", "option", "ab", "a-b", ".", ".A", "\xff", "f0", "f1", "f2", strings.Repeat("x", 32), strings.Repeat("x", 33)})
}

func spoilList(r *rand.Rand, v reflect.Value) {
	n := v.Len()
	i, j := r.Intn(n+1), r.Intn(n+1)
	switch r.Intn(4) {
	case 0:
		v.Set(reflect.Append(v, reflect.Zero(v.Type().Elem())))
	case 1:
		if i < n {
			v.Set(reflect.AppendSlice(v.Slice3(0, i, i), v.Slice(i+1, n)))
		}
	case 2:
		if i < n && j < n {
			reflect.Swapper(v.Interface())(i, j)
		}
	case 3:
		if i < n {
			more := reflect.Append(v.Slice3(0, i, i), v.Index(i))
			v.Set(reflect.AppendSlice(more, v.Slice(i, n)))
		}
	}
}

// P9.2: random sets that are spoilt in few places are valid if the second way finds
// nothing wrong, and if files that say the same are built as the same set.
func TestSpoiltSets(t *testing.T) {
	t.Parallel()
	r := rand.New(rand.NewSource(6))
	valid, wrong := 0, map[string]int{}
	var l []api.Source
	for i := range 6000 {
		if i%30 == 0 {
			l = randomSources(r)
		}
		s, _, _ := build.Build(l, pathsOf(l))
		for range 1 + r.Intn(3) {
			spoil(r, &s)
		}
		e, found := build.Check(s), secondWrong(s)
		if e == api.OK != (len(found) == 0) || e != api.OK && e != api.ErrArg {
			t.Fatalf("%d, but %q of %+v", e, found, s)
		}
		text := filesOf(s)
		again, at, eBuild := build.Build(text, pathsOf(text))
		if isSame := eBuild == api.OK && deepEqual(again, s); isSame != (e == api.OK) && len(s.Files) > 0 {
			t.Fatalf("%d, but %d at %v of %q of %+v", e, eBuild, at, text, s)
		}
		slices.Sort(found)
		for _, what := range slices.Compact(found) {
			wrong[what]++
		}
		if e == api.OK {
			valid++
		}
	}
	if valid < 600 {
		t.Errorf("only %d are valid", valid)
	}
	for _, what := range strings.Split("a circle|a card|a key|a name twice|a number|a number that is reserved|a oneof|a package|a path|a range|a type|a value that is reserved|an import of nothing|an import twice|an offset|enum that is not seen|message that is not seen|no file|no zero|outside of all|ranges that overlap|the key of a map|the name of a field|the name of a method|the name of a value|the number of a value|the oneof of a field|the order of files|the order of names|the order of ranges", "|") {
		if wrong[what] < 5 {
			t.Errorf("%s: only %d", what, wrong[what])
		}
	}
}
