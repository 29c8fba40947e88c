package value_test

import (
	"fmt"
	"math/rand"
	"reflect"
	"slices"
	"strings"
	"testing"

	"signetry/api"
	"signetry/build"
	"signetry/kinds"
	"signetry/value"
)

// randomSet is a set of messages with random fields.
func randomSet(t testing.TB, r *rand.Rand) api.Set {
	t.Helper()
	text := "a:package p;enum E{Z=0;A=1;B=-7;}"
	for _, name := range []string{"M", "N", "O"} {
		text += "message " + name + "{" + randomFields(r)
		if name == "M" {
			text += "message N{" + randomFields(r) + "}"
		}
		text += "}"
	}
	return built(t, text)
}

// typeNames is the types that random fields have, messages and enums often.
var typeNames = strings.Fields("double float int64 uint64 int32 fixed64 fixed32 bool string bytes uint32 sfixed32 sfixed64 sint32 sint64 M N O M.N E M N O M.N string bytes")

func randomFields(r *rand.Rand) string {
	var b strings.Builder
	numbers := r.Perm(25)[:r.Intn(9)]
	if r.Intn(2) == 0 {
		numbers = append(numbers, 1<<29-2)
	}
	isOpen := false
	for i, n := range numbers {
		typ := pick(r, typeNames)
		switch {
		case isOpen && r.Intn(3) == 0:
			b.WriteString("}")
			isOpen = false
		case !isOpen && r.Intn(4) == 0:
			fmt.Fprintf(&b, "oneof o%d{", i)
			isOpen = true
		}
		switch r.Intn(4) {
		case 0:
			if !isOpen {
				typ = "optional " + typ
			}
		case 1:
			if !isOpen {
				typ = "repeated " + typ
			}
		case 2:
			if !isOpen {
				typ = fmt.Sprintf("map<%s,%s>", types[pick(r, keyTypes)], typ)
			}
		}
		fmt.Fprintf(&b, "%s f%d=%d;", typ, i, n+1)
	}
	if isOpen {
		b.WriteString("}")
	}
	return b.String()
}

// valueOf is a random value of a message, at most so deep.
func valueOf(r *rand.Rand, s api.Set, name string, deep int) api.Val {
	v := msg(name)
	m := s.Msgs[slices.IndexFunc(s.Msgs, func(m api.Msg) bool { return m.Name == name })]
	taken := map[int]bool{}
	for _, f := range m.Fields {
		if !taken[f.Oneof] && r.Intn(3) > 0 && deep > 3 {
			v.F = append(v.F, slot(f.Num, listOf(r, s, f, deep-1)...))
			taken[f.Oneof] = f.Oneof >= 0
		}
	}
	return v
}

// listOf is a random list that a field denotes, not empty.
func listOf(r *rand.Rand, s api.Set, f api.Field, deep int) (l []api.Val) {
	many := 1
	if f.Card == api.Rep || f.Card == api.Map {
		many += r.Intn(4)
	}
	for range many {
		v := held(r, s, f.Type, f.Ref, deep)
		switch {
		case f.Card == api.Map:
			key := held(r, s, f.Key, "", deep)
			if !slices.ContainsFunc(l, func(o api.Val) bool { return keyText(o.F[0].L[0]) == keyText(key) }) {
				l = append(l, entry(key, v))
			}
			continue
		case f.Card == api.One:
			for isZero(v) {
				v = held(r, s, f.Type, f.Ref, deep)
			}
		}
		l = append(l, v)
	}
	if f.Card == api.Map {
		slices.SortFunc(l, func(a, b api.Val) int {
			if isAhead(a.F[0].L[0], b.F[0].L[0]) {
				return -1
			}
			return 1
		})
	}
	return l
}

// byType is the values of probes that types hold.
var byType = heldByTypes()

func heldByTypes() map[int][]api.Val {
	all := map[int][]api.Val{}
	for typ := range types {
		all[typ] = some(typ)
	}
	return all
}

// held is a random value that a type holds.
func held(r *rand.Rand, s api.Set, typ int, ref string, deep int) api.Val {
	if typ == api.TMsg {
		return valueOf(r, s, ref, deep-1)
	}
	return pick(r, byType[typ])
}

// eachRandom calls with random values of random sets, as many as that.
func eachRandom(t *testing.T, seed int64, count int, call func(r *rand.Rand, s api.Set, name string, v api.Val)) {
	t.Helper()
	r := rand.New(rand.NewSource(seed))
	var s api.Set
	for i := range count {
		if i%20 == 0 {
			s = randomSet(t, r)
		}
		name := pick(r, s.Msgs).Name
		v := valueOf(r, s, name, 1+r.Intn(12))
		if many, _ := value.Size(v); many > 1000 {
			continue
		}
		call(r, s, name, v)
	}
}

// P11.1: random values of messages, as values of these and of no other ones.
func TestRandomValues(t *testing.T) {
	t.Parallel()
	slots := 0
	eachRandom(t, 5, 3000, func(r *rand.Rand, s api.Set, name string, v api.Val) {
		if l := secondWrong(s, name, v); len(l) > 0 {
			t.Fatalf("%q of %s", l, told(v))
		}
		slots += len(v.F)
		checks(t, s, name, v, api.OK)
		for _, m := range s.Msgs {
			if m.Name != name {
				checks(t, s, m.Name, v, api.ErrType)
			}
		}
		m, _ := build.Msg(s, name)
		for _, f := range m.Fields {
			l := value.Get(v, f.Num)
			denotes(t, s, f, true, l...)
			if len(l) == 0 {
				continue
			}
			many := append(slices.Clone(l), l[len(l)-1])
			denotes(t, s, f, f.Card == api.Rep, many...)
			denotes(t, s, f, false, append(l, api.Val{})...)
		}
	})
	if slots < 5000 {
		t.Errorf("only %d slots", slots)
	}
}

// P11.1: random values that are changed in few places are values of their message if
// the second way finds nothing wrong.
func TestSpoiltValues(t *testing.T) {
	t.Parallel()
	right, wrong := 0, map[string]int{}
	eachRandom(t, 6, 12000, func(r *rand.Rand, s api.Set, name string, v api.Val) {
		v = value.Copy(v)
		if m, _ := build.Msg(s, name); len(m.Fields) > 0 && r.Intn(4) == 0 {
			f := pick(r, m.Fields)
			v = value.Put(v, f.Num, listOf(r, s, f, 3))
		} else {
			change(r, pick(r, parts(reflect.ValueOf(&v).Elem())))
		}
		found := secondWrong(s, name, v)
		want := api.OK
		if len(found) > 0 {
			want = api.ErrType
		}
		if e := value.Check(s, name, v); e != want {
			t.Fatalf("%d, but %q, of %s", e, found, told(v))
		}
		for _, what := range compacted(found) {
			wrong[what]++
		}
		if want == api.OK {
			right++
		}
	})
	if right < 1000 {
		t.Errorf("only %d are right", right)
	}
	for _, what := range reasons {
		if wrong[what] < 10 {
			t.Errorf("%s: only %d", what, wrong[what])
		}
	}
}

// otherField is a field like another one, with something else in it.
func otherField(r *rand.Rand, f api.Field) api.Field {
	switch r.Intn(5) {
	case 0:
		f.Card = r.Intn(7) - 1
	case 1:
		f.Type = pick(r, append([]int{f.Type, 0, 10, 19, -1, 100}, typeNumbers()...))
	case 2:
		f.Key = pick(r, append([]int{f.Key, 0, 10, 19, -1, 100}, typeNumbers()...))
	case 3:
		f.Ref = pick(r, []string{"", "p.M", "p.N", "p.O", "p.M.N", "p.E", "M", "q"})
	case 4:
		f.Num, f.Oneof, f.Name, f.Json = 0, 7, "", "?"
	}
	return f
}

func typeNumbers() (l []int) {
	for n := 1; n <= 18; n++ {
		if types[n] != "" {
			l = append(l, n)
		}
	}
	return l
}

// P11.1: random fields, also such as no message has, denote what the second way finds
// nothing wrong with.
func TestRandomFields(t *testing.T) {
	t.Parallel()
	count := map[bool]int{}
	eachRandom(t, 7, 15000, func(r *rand.Rand, s api.Set, name string, _ api.Val) {
		m, _ := build.Msg(s, name)
		if len(m.Fields) == 0 {
			return
		}
		f := pick(r, m.Fields)
		l := value.Get(value.Copy(msg("", slot(1, listOf(r, s, f, 6)...))), 1)
		if f = otherField(r, f); r.Intn(2) == 0 {
			change(r, pick(r, parts(reflect.ValueOf(&l).Elem())))
		}
		found := secondDenies(s, f, l)
		count[len(found) == 0]++
		if is := value.Denotes(s, f, l); is != (len(found) == 0) {
			t.Fatalf("%t, but %q, of %s by %+v", is, found, toldAll(l), f)
		}
	})
	if count[true] < 3000 || count[false] < 3000 {
		t.Errorf("only %v", count)
	}
}

// P11.5: a value of a message remains one if any of its slots is taken away, and if
// lists that fields denote are put into it, where no oneof has another one.
func TestPutIntoValues(t *testing.T) {
	t.Parallel()
	count := 0
	eachRandom(t, 8, 1500, func(r *rand.Rand, s api.Set, name string, v api.Val) {
		for _, x := range v.F {
			less := value.Put(v, x.Num, nil)
			if len(less.F) != len(v.F)-1 {
				t.Errorf("%s without %d is %s", told(v), x.Num, told(less))
			}
			checks(t, s, name, less, api.OK)
			is(t, "put back", value.Put(less, x.Num, x.L), v)
		}
		m, _ := build.Msg(s, name)
		for _, f := range m.Fields {
			count++
			l := listOf(r, s, f, 5)
			more := value.Put(v, f.Num, l)
			for _, o := range m.Fields {
				if o.Num != f.Num && o.Oneof == f.Oneof && f.Oneof >= 0 {
					more = value.Put(more, o.Num, nil)
				}
			}
			checks(t, s, name, more, api.OK)
			areAll(t, "put", value.Get(more, f.Num), l)
			checks(t, s, name, value.Put(more, f.Num, nil), api.OK)
		}
	})
	if count < 3000 {
		t.Errorf("only %d", count)
	}
}

// fieldsOfAll is a field of each type and card, and of each type with keys of each
// type, as a set of typed may have it.
func fieldsOfAll() (l []api.Field) {
	for _, typ := range typeNumbers() {
		for _, card := range []int{api.One, api.Opt, api.Rep} {
			if typ != api.TMsg || card != api.One {
				l = append(l, plain(typ, card))
			}
		}
		for _, key := range keyTypes {
			l = append(l, mapOf(key, typ))
		}
	}
	return l
}

// few is some small values that a type holds.
func few(typ int) []api.Val {
	return slices.DeleteFunc(some(typ), func(v api.Val) bool { return v.Neg || v.Mag > 1 || len(v.B) > 1 })
}

// listsOf is small lists that a field denotes.
func listsOf(s api.Set, f api.Field) (lists [][]api.Val) {
	var all [][]api.Val
	for _, v := range few(f.Type) {
		if f.Card != api.Map {
			all = append(all, []api.Val{v})
			continue
		}
		for _, key := range few(f.Key) {
			all = append(all, []api.Val{entry(key, v)})
		}
	}
	return slices.DeleteFunc(all, func(l []api.Val) bool { return !value.Denotes(s, f, l) })
}

// P11.7: whatever reads an older field denotes some list that the older one denotes.
func TestReadingFields(t *testing.T) {
	t.Parallel()
	s := typed(t, api.TInt32, 0)
	pairs := 0
	for _, older := range fieldsOfAll() {
		lists := listsOf(s, older)
		if len(lists) == 0 {
			t.Errorf("%+v denotes nothing", older)
		}
		for _, newer := range fieldsOfAll() {
			if !kinds.Reads(older, newer) {
				continue
			}
			pairs++
			if !slices.ContainsFunc(lists, func(l []api.Val) bool { return value.Denotes(s, newer, l) }) {
				t.Errorf("%+v denotes nothing of %+v", newer, older)
			}
		}
	}
	if pairs < 2000 {
		t.Errorf("only %d pairs", pairs)
	}
	// What denotes nothing at all: a message that the set has not.
	f := plain(api.TMsg, api.Opt)
	f.Ref = "X"
	for _, p := range probes() {
		denotes(t, s, f, false, p.v)
	}
}
