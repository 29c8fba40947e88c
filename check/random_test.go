package check_test

import (
	"fmt"
	"math/rand"
	"slices"
	"strings"
	"testing"

	"signetry/api"
	"signetry/check"
	"signetry/files"
	"signetry/scope"
	"signetry/tree"
)

// writer writes random files, which use few names and numbers again and again.
// With others, most of them are used once.
type writer struct {
	*rand.Rand
	strings.Builder
	others bool
	count  int
}

func (w *writer) put(parts ...string) {
	for _, s := range parts {
		w.WriteString(s)
	}
}

// name is a name of something.
func (w *writer) name() string {
	if w.others && w.Intn(12) > 0 {
		w.count++
		return fmt.Sprint("n", w.count)
	}
	return pick(w.Rand, strings.Fields("a A a_b aB _ _a M N N p int32 string message"))
}

// number is a number of a field.
func (w *writer) number() string {
	if w.others && w.Intn(12) > 0 {
		w.count++
		return fmt.Sprint(w.count)
	}
	return pick(w.Rand, strings.Fields("0 1 2 3 4 5 5 6 7 8 9 18999 19000 19999 20000 536870911 536870912 2147483647 2147483648"))
}

// typeName is the name of a type, and of something else at times.
func (w *writer) typeName() string {
	if w.Intn(3) == 0 || w.others {
		return pick(w.Rand, basic())
	}
	return pick(w.Rand, strings.Fields("M N a A .M .N .a .p.M .p.N p.M p.N M.N N.M N.N a.b .int32 .string p.int32 string S p.S .S p"))
}

func (w *writer) field(isChoice bool) {
	card := ""
	if !isChoice {
		card = pick(w.Rand, []string{"", "", "optional ", "repeated ", "map"})
	}
	switch card {
	case "map":
		key := pick(w.Rand, append(basic(), "M", "a", ".int32"))
		if w.others {
			key = "bool"
		}
		w.put("map<", key, ",", w.typeName(), ">")
	default:
		w.put(card, w.typeName(), " ")
	}
	w.put(w.name(), "=", w.number())
	if w.Intn(4) == 0 {
		w.put("[json_name=\"", pick(w.Rand, []string{"", w.name(), w.name(), "a", "aB", "a-b", strings.Repeat("k", 32), strings.Repeat("k", 33)}), "\"]")
	}
	w.put(";")
}

// ranges writes ranges with that many between the least and the greatest number.
func (w *writer) reserved(numbers []string) {
	if w.Intn(2) == 0 {
		w.put("reserved ", `"`, w.name(), `"`)
		for range w.Intn(3) {
			w.put(`,"`, w.name(), `"`)
		}
		w.put(";")
		return
	}
	w.put("reserved ")
	for i := range 1 + w.Intn(3) {
		if i > 0 {
			w.put(",")
		}
		from := w.Intn(len(numbers))
		w.put(numbers[from])
		if w.Intn(2) == 0 {
			w.put(" to ", numbers[min(len(numbers)-1, from+w.Intn(4))])
		}
	}
	w.put(";")
}

func (w *writer) message(deep int) {
	w.put("message ", w.name(), "{")
	for range w.Intn(6) {
		switch w.Intn(8) {
		case 0:
			w.put("oneof ", w.name(), "{")
			for range w.Intn(3) {
				w.field(true)
			}
			w.put("}")
		case 1:
			if w.Intn(3) == 0 || !w.others {
				w.reserved(strings.Fields("0 1 2 3 4 5 6 7 8 9 10 18999 19000 19999 20000 536870910 536870911 536870912 2147483648"))
			}
		case 2:
			if deep < 3 {
				w.message(deep + 1)
			}
		case 3:
			w.enum()
		default:
			w.field(false)
		}
	}
	w.put("}")
}

func (w *writer) enum() {
	numbers := strings.Fields("-2147483648 -2147483647 -9 -3 -2 -1 0 1 2 3 4 5 2147483646 2147483647 2147483648")
	w.put("enum ", w.name(), "{")
	if w.Intn(4) > 0 {
		w.put(w.name(), "=0;")
	}
	for range w.Intn(4) {
		if w.Intn(4) == 0 {
			w.reserved(numbers)
			continue
		}
		name, number := w.name(), w.number()
		if !w.others {
			number = pick(w.Rand, numbers)
		}
		w.put(name, "=", number, ";")
	}
	w.put("}")
}

func (w *writer) service() {
	w.put("service ", pick(w.Rand, []string{"S", "T", w.name()}), "{")
	for range w.Intn(4) {
		w.put("rpc ", w.name(), "(", w.typeName(), ")returns(", w.typeName(), ");")
	}
	w.put("}")
}

// randomSources is files that import some of those ahead of them.
func randomSources(r *rand.Rand, others bool) (l []api.Source) {
	w := &writer{Rand: r, others: others}
	for i := range 1 + r.Intn(4) {
		w.Reset()
		w.put(head, pick(r, []string{"", "package p;", "package p;", "package p.M;", "package M;"}))
		for j := range i {
			w.put(pick(r, []string{"", fmt.Sprintf(`import"%d";`, j), fmt.Sprintf(`import public"%d";`, j)}))
		}
		for range r.Intn(5) {
			switch r.Intn(5) {
			case 0:
				w.enum()
			case 1:
				w.service()
			default:
				w.message(1)
			}
		}
		l = append(l, api.Source{Path: fmt.Sprint(i), Text: w.String()})
	}
	return l
}

func allParsed(l []api.Source) (out []api.Unit) {
	for _, s := range l {
		out = append(out, parsed(s.Path, s.Text))
	}
	return out
}

// agrees checks that All and First return what the second way does.
func agrees(t *testing.T, l []api.Unit) []api.Wrong {
	t.Helper()
	want := secondAll(l)
	got, e := check.All(l)
	if e != api.OK || !slices.Equal(got, want) {
		t.Errorf("%d\n%s\nwant\n%s\nof %+v", e, strings.Join(allTold(got), "\n"), strings.Join(allTold(want), "\n"), l)
	}
	at, e := check.First(l)
	if len(want) == 0 && (at != (api.Where{}) || e != api.OK) || len(want) > 0 && (api.Wrong{Path: at.Path, At: at.At, E: e}) != want[0] {
		t.Errorf("the first one is %d at %v of %v", e, at, allTold(want))
	}
	return want
}

// P8.1: random files, most of which have many diagnostics.
func TestRandomFiles(t *testing.T) {
	r := rand.New(rand.NewSource(1))
	count := map[api.Errno]int{}
	for range 2000 {
		for _, w := range agrees(t, allParsed(randomSources(r, false))) {
			count[w.E]++
		}
	}
	for e, name := range errorNames() {
		if count[e] < 100 && e != api.ErrLimit {
			t.Errorf("%s: only %d", name, count[e])
		}
	}
}

// P8.1: random trees, with offsets that have nothing to do with their order.
func TestRandomOffsets(t *testing.T) {
	r := rand.New(rand.NewSource(2))
	for range 500 {
		l := allParsed(randomSources(r, false))
		for i := range l {
			randomOffsets(r, &l[i].Tree)
		}
		agrees(t, l)
		for i := range l {
			l[i].Tree = tree.Bare(l[i].Tree)
			for j := range l[i].Tree.Svcs {
				// The second way asks what is at which place.
				for k := range l[i].Tree.Svcs[j].Rpcs {
					l[i].Tree.Svcs[j].Rpcs[k].InAt = 1
				}
			}
		}
		agrees(t, l)
	}
}

func randomOffsets(r *rand.Rand, of *api.Tree) {
	at := func() int { return r.Intn(7) - 3 }
	var messages func(l []api.MsgDef)
	enums := func(l []api.EnumDef) {
		for i := range l {
			l[i].At = at()
			for j := range l[i].Values {
				l[i].Values[j].At = at()
			}
		}
	}
	messages = func(l []api.MsgDef) {
		for i := range l {
			l[i].At = at()
			for j := range l[i].Fields {
				f := &l[i].Fields[j]
				f.At, f.TypeAt, f.NumAt = at(), at(), at()
			}
			for j := range l[i].Ranges {
				l[i].Ranges[j].At = at()
			}
			for j := range l[i].Oneofs {
				l[i].Oneofs[j].At = at()
			}
			messages(l[i].Msgs)
			enums(l[i].Enums)
		}
	}
	messages(of.Msgs)
	enums(of.Enums)
}

// P8.4: blanks and comments change nothing but offsets: token by token, the same
// is wrong.
func TestRandomGaps(t *testing.T) {
	r := rand.New(rand.NewSource(3))
	found := 0
	for range 300 {
		l := randomSources(r, r.Intn(2) == 0)
		spaced := slices.Clone(l)
		for i := range l {
			spaced[i].Text, _ = spread(l[i].Text, nil)
		}
		a, b := byTokens(t, l), byTokens(t, spaced)
		found += len(a)
		if !slices.Equal(a, b) {
			t.Errorf("%v\n%v\nof %v", a, b, l)
		}
	}
	if found < 1000 {
		t.Errorf("only %d are found", found)
	}
}

// byTokens is the diagnostics of files, with the indices of tokens as offsets.
func byTokens(t *testing.T, l []api.Source) []string {
	all, e := check.All(allParsed(l))
	if e != api.OK {
		t.Fatal(e)
	}
	for i, w := range all {
		of := l[slices.IndexFunc(l, func(s api.Source) bool { return s.Path == w.Path })]
		all[i].At = slices.Index(tokenStarts(of.Text), w.At)
		if all[i].At < 0 {
			t.Errorf("no token starts at %d of %s", w.At, of.Text)
		}
	}
	return allTold(all)
}

// P8.5: in random files without diagnostics, each symbol is the only one with its
// name, the number and the key of each field are unique, and nothing that is used
// is reserved.
func TestCleanFiles(t *testing.T) {
	r := rand.New(rand.NewSource(4))
	clean, fields := 0, 0
	for range 4000 {
		l := allParsed(randomSources(r, true))
		if all, _ := check.All(l); len(all) > 0 {
			continue
		}
		clean++
		var names []string
		for _, s := range scope.All(l) {
			names = append(names, s.Name)
		}
		unique(t, names)
		for _, u := range l {
			for _, m := range allMessages(u.Tree.Msgs) {
				var keys, own []string
				var numbers []int
				for _, f := range m.Fields {
					fields++
					keys, own, numbers = append(keys, check.Key(f)), append(own, f.Name), append(numbers, f.Num)
					if inside(m.Ranges, f.Num) || listed(m.Names, f.Name) || listed(m.Names, check.Key(f)) || !check.IsKey(check.Key(f)) {
						t.Errorf("%+v in %+v", f, m)
					}
				}
				unique(t, keys)
				unique(t, own)
				unique(t, numbers)
			}
		}
	}
	if clean < 500 || fields < 500 {
		t.Errorf("only %d are clean, with %d fields", clean, fields)
	}
}

// allMessages is messages, with all that are in them.
func allMessages(l []api.MsgDef) (all []api.MsgDef) {
	for _, m := range l {
		all = append(append(all, m), allMessages(m.Msgs)...)
	}
	return all
}

// unique checks that no element occurs twice.
func unique[T string | int](t *testing.T, l []T) {
	t.Helper()
	for i, x := range l {
		if slices.Contains(l[:i], x) {
			t.Errorf("%v occurs twice", x)
		}
	}
}

// P8.5: a clean file is not clean any more if a field is there once more with its
// number, or its key, or if its number, name or key is reserved.
func TestSpoiltFiles(t *testing.T) {
	r := rand.New(rand.NewSource(5))
	spoilt := 0
	for range 8000 {
		l := allParsed(randomSources(r, true))
		u := &pick(r, slices.Collect(pointers(l))).Tree
		if all, _ := check.All(l); len(all) > 0 || len(u.Msgs) == 0 {
			continue
		}
		m := &u.Msgs[r.Intn(len(u.Msgs))]
		if len(m.Fields) == 0 {
			continue
		}
		f := pick(r, m.Fields)
		other := api.FieldDef{Name: "other", Type: "int32", Card: api.One, Num: 7777777, Oneof: -1, At: 1 << 20, NumAt: 1 << 21}
		want := api.ErrNumber
		switch r.Intn(6) {
		case 0:
			other.Num = f.Num
		case 1:
			want, other.Json = api.ErrKey, check.Key(f)
		case 2:
			want, other.Name, other.Json = api.ErrTwice, f.Name, "other"
		case 3:
			want, m.Ranges = api.ErrReserved, append(slices.Clone(m.Ranges), api.Span{Lo: f.Num, Hi: f.Num})
		case 4:
			want, m.Names = api.ErrReserved, append(slices.Clone(m.Names), api.Text{S: f.Name})
		case 5:
			want, m.Names = api.ErrReserved, append(slices.Clone(m.Names), api.Text{S: "other"})
		}
		m.Fields = append(slices.Clone(m.Fields), other)
		if files.Check(l) != api.OK {
			continue
		}
		spoilt++
		all, e := check.All(l)
		if e != api.OK || len(all) == 0 || slices.ContainsFunc(all, func(w api.Wrong) bool { return w.E != want }) {
			t.Errorf("%d, %v, want %s", e, allTold(all), errorNames()[want])
		}
	}
	if spoilt < 300 {
		t.Errorf("only %d are spoilt", spoilt)
	}
}

// pointers traverses where the elements of a list are.
func pointers[T any](l []T) func(yield func(*T) bool) {
	return func(yield func(*T) bool) {
		for i := range l {
			if !yield(&l[i]) {
				return
			}
		}
	}
}
