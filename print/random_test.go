package print_test

import (
	"math/rand"
	"reflect"
	"slices"
	"strings"
	"testing"

	"signetry/api"
	"signetry/lex"
	"signetry/print"
	"signetry/text"
	"signetry/tree"
)

// maker makes random trees that are valid.
type maker struct{ *rand.Rand }

func treeOf(seed int64) api.Tree {
	return maker{rand.New(rand.NewSource(seed))}.tree()
}

// some is a list of up to that many elements.
func some[T any](x maker, most int, element func() T) (l []T) {
	for range x.Intn(most + 1) {
		l = append(l, element())
	}
	return l
}

func (x maker) ident() string {
	return pick(x.Rand, append(keywords(), "a", "b", "C", "_", "x_1", "int32", "string", strings.Repeat("q", api.MaxIdent)))
}

// identBut is an identifier that is none of these.
func (x maker) identBut(not ...string) string {
	for {
		if s := x.ident(); !slices.Contains(not, s) {
			return s
		}
	}
}

// name is the name of a type, whose first identifier is none of these if it has
// no leading period.
func (x maker) name(not ...string) string {
	start := x.identBut(not...)
	if x.Intn(3) == 0 {
		start = "." + x.ident()
	}
	return strings.Join(append([]string{start}, some(x, 2, x.ident)...), ".")
}

func (x maker) num() int {
	return pick(x.Rand, []int{0, 1, 2, 18999, 1<<29 - 1, 1 << 29, 1<<31 - 1, 1 << 31, x.Intn(1<<31 + 1)})
}

func (x maker) at() int {
	return x.Intn(1000) - 100
}

func (x maker) text() api.Text {
	return api.Text{S: x.ident(), At: x.at()}
}

func (x maker) tree() api.Tree {
	t := api.Tree{
		Imports: some(x, 3, x.imported),
		Msgs:    some(x, 3, func() api.MsgDef { return x.message(1) }),
		Enums:   some(x, 2, x.enum),
		Svcs:    some(x, 2, x.service),
	}
	if x.Intn(2) == 0 {
		t.Package = strings.TrimPrefix(x.name(), ".")
	}
	return t
}

func (x maker) imported() api.Import {
	path := pick(x.Rand, []string{"a", "a/b.proto", "-._/", "public", "5", strings.Repeat("p", api.MaxPath)})
	return api.Import{Path: path, Public: x.Intn(2) == 0, At: x.at()}
}

func (x maker) message(deep int) api.MsgDef {
	m := api.MsgDef{
		Name: x.ident(), At: x.at(), Oneofs: some(x, 4, x.text), Enums: some(x, 1, x.enum),
		Ranges: some(x, 3, func() api.Span { return x.span(0, api.MaxNum) }), Names: some(x, 3, x.text),
	}
	if deep < api.MaxDeep && x.Intn(2) == 0 {
		m.Msgs = some(x, 2, func() api.MsgDef { return x.message(deep + 1) })
	}
	plain := func() api.FieldDef { return x.field(x.Intn(4)+1, -1) }
	m.Fields = some(x, 3, plain)
	for i := range m.Oneofs {
		m.Fields = append(m.Fields, some(x, 2, func() api.FieldDef { return x.field(api.Opt, i) })...)
		m.Fields = append(m.Fields, some(x, 1, plain)...)
	}
	return m
}

func (x maker) field(card, oneof int) api.FieldDef {
	f := api.FieldDef{Name: x.ident(), Card: card, Num: x.num(), Oneof: oneof, At: x.at(), TypeAt: x.at(), NumAt: x.at()}
	switch {
	case oneof >= 0:
		f.Type = x.name(noChoice()...)
	case card == api.One:
		f.Type = x.name(noField()...)
	default:
		f.Type = x.name()
	}
	if card == api.Map {
		f.Key = x.name()
	}
	if x.Intn(3) == 0 {
		f.Json = pick(x.Rand, []string{"a", "json_name", "a b", "\"'\\", "\xff\x00\n", "\xe2\x82\xac", "{", "}\n"})
	}
	return f
}

func (x maker) enum() api.EnumDef {
	value := func() api.ValueDef {
		return api.ValueDef{Name: x.identBut("reserved", "option"), Num: x.num() * (1 - 2*x.Intn(2)), At: x.at()}
	}
	return api.EnumDef{
		Name: x.ident(), At: x.at(), Values: some(x, 3, value),
		Ranges: some(x, 3, func() api.Span { return x.span(-1<<31, 1<<31-1) }), Names: some(x, 2, x.text),
	}
}

func (x maker) span(least, most int) api.Span {
	lo := least + x.Intn(1<<31-least+1)
	hi := pick(x.Rand, []int{lo, most, 1 << 31, lo + x.Intn(1<<31-lo+1)})
	return api.Span{Lo: min(lo, hi), Hi: max(lo, hi), At: x.at()}
}

func (x maker) service() api.SvcDef {
	rpc := func() api.RpcDef {
		return api.RpcDef{Name: x.ident(), In: x.name(), Out: x.name(), At: x.at(), InAt: x.at(), OutAt: x.at()}
	}
	return api.SvcDef{Name: x.ident(), At: x.at(), Rpcs: some(x, 3, rpc)}
}

// P5.1, P5.4, P5.5: random trees have the canonical text of the second printer,
// which is parsed as that tree and does not change; offsets do not matter.
func TestRandomTrees(t *testing.T) {
	for seed := range int64(2500) {
		of := treeOf(seed)
		s := accepts(t, "a random tree", of)
		if bare, e := print.Text(tree.Bare(of)); bare != s || e != api.OK {
			t.Errorf("%s has without its offsets %s", s, bare)
		}
	}
}

// P5.2, P5.5: texts with the same tree have the same canonical text, however
// they are written.
func TestTextsOfOneTree(t *testing.T) {
	r := rand.New(rand.NewSource(1))
	for seed := range int64(1000) {
		of := treeOf(seed)
		want, _ := print.Text(of)
		for _, s := range []string{plain(of), withGaps(r, plain(of)), withGaps(r, want)} {
			tidies(t, s, want)
		}
	}
}

// withGaps is a text with the same tokens, and other blanks and comments.
func withGaps(r *rand.Rand, s string) string {
	words, _, _ := lex.Words(s)
	var out strings.Builder
	for _, w := range words {
		out.WriteString(pick(r, []string{" ", "\n", "\t\t", "/* { */", "// }\n", "\r\n"}))
		if w.Kind == api.WordLit {
			out.WriteString(text.Quote([]byte(w.Text)))
		} else {
			out.WriteString(w.Text)
		}
	}
	return out.String()
}

// spoil changes a random part of a tree, so that it may not be valid any more.
func spoil(r *rand.Rand, t *api.Tree) {
	var parts []reflect.Value
	eachPart(reflect.ValueOf(t).Elem(), "", func(_ string, v reflect.Value) {
		if v.Kind() != reflect.Struct {
			parts = append(parts, v)
		}
	})
	switch v := pick(r, parts); v.Kind() {
	case reflect.String:
		v.SetString(pick(r, someTexts()))
	case reflect.Int:
		v.SetInt(int64(pick(r, someNumbers())))
	case reflect.Slice:
		spoilList(r, v)
	}
}

func spoilList(r *rand.Rand, v reflect.Value) {
	if v.Len() < 2 {
		v.Set(reflect.Append(v, reflect.Zero(v.Type().Elem())))
		return
	}
	switch i, j := r.Intn(v.Len()), r.Intn(v.Len()); r.Intn(3) {
	case 0:
		reflect.Swapper(v.Interface())(i, j)
	case 1:
		v.Set(reflect.AppendSlice(v.Slice(0, i), v.Slice(i+1, v.Len())))
	case 2:
		v.Set(reflect.Append(v, v.Index(i)))
	}
}

func someTexts() []string {
	l := []string{
		"", "a", "_", "Z9", ".", "..", ".a", "a.", "a..b", "a.b", ".a.b", "1", "1a", "a.1", "a b", " a", "a ", "a\n", "a-b", "a/b", "/**/a", "a//",
		"\xc3\xa4", "\"", "'", ";", "{}", "a;b", "T a=1;T", "\x00", "K,V", "a>b", strings.Repeat("q", api.MaxIdent), strings.Repeat("q", api.MaxIdent+1),
	}
	for _, size := range []int{api.MaxPath, api.MaxPath + 1, api.MaxFull - 1, api.MaxFull, api.MaxFull + 1} {
		l = append(l, fullOf(size), "."+fullOf(size))
	}
	for _, s := range keywords() {
		l = append(l, s, s+".a")
	}
	return l
}

func someNumbers() []int {
	return []int{-1 << 63, -1<<31 - 1, -1 << 31, -2, -1, 0, 1, 2, 3, 4, 5, 16, 1<<29 - 1, 1 << 29, 1<<31 - 1, 1 << 31, 1<<31 + 1, 1<<63 - 1}
}

// fullOf is a full name of that many bytes.
func fullOf(size int) string {
	s := strings.Repeat(strings.Repeat("f", api.MaxIdent-1)+".", size/api.MaxIdent+1)[:size]
	if strings.HasSuffix(s, ".") {
		return s[:size-1] + "f"
	}
	return s
}

// P5.1: of trees with some parts that are changed, those are valid that Parse
// can return, and the others have ErrArg.
func TestSpoiltTrees(t *testing.T) {
	r := rand.New(rand.NewSource(2))
	count := map[bool]int{}
	for seed := range int64(5000) {
		of := treeOf(seed)
		for range 1 + r.Intn(3) {
			spoil(r, &of)
		}
		want := readable(of)
		count[want]++
		valid(t, "a spoilt tree", of, want)
	}
	if count[true] < 1000 || count[false] < 1000 {
		t.Errorf("%d valid trees, %d others", count[true], count[false])
	}
}

// P5.1: each text of a tree, and each number of it, changed into each of some
// others.
func TestEachPart(t *testing.T) {
	whole := wholeTree()
	eachPart(reflect.ValueOf(&whole).Elem(), "", func(name string, v reflect.Value) {
		switch v.Kind() {
		case reflect.String:
			was := v.String()
			for _, s := range someTexts() {
				v.SetString(s)
				valid(t, name+" = "+s, whole, readable(whole))
			}
			v.SetString(was)
		case reflect.Int:
			was := v.Int()
			for _, n := range someNumbers() {
				v.SetInt(int64(n))
				valid(t, name, whole, readable(whole))
			}
			v.SetInt(was)
		}
	})
	accepts(t, "the whole tree", whole)
}
