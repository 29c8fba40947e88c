package enc_test

import (
	"fmt"
	"math/big"
	"math/rand"
	"reflect"
	"slices"
	"strings"
	"testing"

	"signetry/api"
	"signetry/build"
	"signetry/enc"
	"signetry/value"
)

// randomSet is a set of messages with random fields.
func randomSet(t testing.TB, r *rand.Rand) api.Set {
	t.Helper()
	text := "a:package p;enum E{Z=0;A=1;B=-7;}"
	for _, name := range []string{"M", "N", "O"} {
		text += "message " + name + "{" + randomFields(r)
		if name == "M" {
			text += "message N{" + randomFields(r) + "}"
		}
		text += "}"
	}
	return built(t, text)
}

// typeNames is the types that random fields have, messages and enums often.
var typeNames = strings.Fields("double float int64 uint64 int32 fixed64 fixed32 bool string bytes uint32 sfixed32 sfixed64 sint32 sint64 M N O M.N E M N O M.N string bytes")

func randomFields(r *rand.Rand) string {
	var b strings.Builder
	numbers := r.Perm(25)[:r.Intn(9)]
	if r.Intn(2) == 0 {
		numbers = append(numbers, 1<<29-2)
	}
	isOpen := false
	for i, n := range numbers {
		typ := pick(r, typeNames)
		switch {
		case isOpen && r.Intn(3) == 0:
			b.WriteString("}")
			isOpen = false
		case !isOpen && r.Intn(4) == 0:
			fmt.Fprintf(&b, "oneof o%d{", i)
			isOpen = true
		}
		switch r.Intn(4) {
		case 0:
			if !isOpen {
				typ = "optional " + typ
			}
		case 1:
			if !isOpen {
				typ = "repeated " + typ
			}
		case 2:
			if !isOpen {
				typ = fmt.Sprintf("map<%s,%s>", types[pick(r, keyTypes)], typ)
			}
		}
		fmt.Fprintf(&b, "%s f%d=%d;", typ, i, n+1)
	}
	if isOpen {
		b.WriteString("}")
	}
	return b.String()
}

// valueOf is a random value of a message, at most so deep.
func valueOf(r *rand.Rand, s api.Set, name string, deep int) api.Val {
	v := msg(name)
	m := s.Msgs[slices.IndexFunc(s.Msgs, func(m api.Msg) bool { return m.Name == name })]
	taken := map[int]bool{}
	for _, f := range m.Fields {
		if !taken[f.Oneof] && r.Intn(3) > 0 && deep > 3 {
			v.F = append(v.F, slot(f.Num, listOf(r, s, f, deep-1)...))
			taken[f.Oneof] = f.Oneof >= 0
		}
	}
	return v
}

// listOf is a random list that a field denotes, not empty.
func listOf(r *rand.Rand, s api.Set, f api.Field, deep int) (l []api.Val) {
	many := 1
	if f.Card == api.Rep || f.Card == api.Map {
		many += r.Intn(4)
	}
	for range many {
		v := held(r, s, f.Type, f.Ref, deep)
		switch {
		case f.Card == api.Map:
			key := held(r, s, f.Key, "", deep)
			if !slices.ContainsFunc(l, func(o api.Val) bool { return told(o.F[0].L[0]) == told(key) }) {
				l = append(l, entry(key, v))
			}
			continue
		case f.Card == api.One:
			for isZero(v) {
				v = held(r, s, f.Type, f.Ref, deep)
			}
		}
		l = append(l, v)
	}
	if f.Card == api.Map {
		slices.SortFunc(l, func(a, b api.Val) int {
			if isAhead(a.F[0].L[0], b.F[0].L[0]) {
				return -1
			}
			return 1
		})
	}
	return l
}

// byType is samples of all types.
var byType = samples()

// held is a random value that a type holds.
func held(r *rand.Rand, s api.Set, typ int, ref string, deep int) api.Val {
	ends, isInt := bounds[typ]
	switch {
	case typ == api.TMsg:
		return valueOf(r, s, ref, deep-1)
	case r.Intn(2) == 0:
		return pick(r, byType[typ]).v
	case isInt:
		least, most := bigOf(ends[0]), bigOf(ends[1])
		n := new(big.Int).Sub(most, least)
		n.Rand(r, n.Add(n, big.NewInt(1)))
		return whole(n.Add(n, least).String())
	case typ == api.TFloat:
		return f32(uint64(r.Uint32()))
	case typ == api.TDouble:
		return f64(r.Uint64())
	}
	return str(strings.Repeat(pick(r, []string{"a", "ä", "\x00", "\U0001F600"}), r.Intn(40)))
}

// eachRandom calls with random values of random sets, as many as that.
func eachRandom(t *testing.T, seed int64, count int, call func(r *rand.Rand, s api.Set, name string, v api.Val)) {
	t.Helper()
	r := rand.New(rand.NewSource(seed))
	var s api.Set
	for i := range count {
		if i%20 == 0 {
			s = randomSet(t, r)
		}
		name := pick(r, s.Msgs).Name
		v := valueOf(r, s, name, 1+r.Intn(12))
		if many, _ := value.Size(v); many > 1000 {
			continue
		}
		call(r, s, name, v)
	}
}

// shuffled is a random order of a value.
func shuffled(r *rand.Rand, v api.Val) []int {
	order := enc.Rising(v)
	r.Shuffle(len(order), func(i, j int) { order[i], order[j] = order[j], order[i] })
	return order
}

// P12.1, P12.2: random values and their lists have the bytes that the second way gives
// them.
func TestRandomValues(t *testing.T) {
	t.Parallel()
	slots := 0
	eachRandom(t, 5, 6000, func(r *rand.Rand, s api.Set, name string, v api.Val) {
		slots += len(v.F)
		for _, order := range [][]int{nil, shuffled(r, v)} {
			writes(t, s, name, v, order, []byte(secondBytes(s, name, v, order)))
		}
		m, _ := build.Msg(s, name)
		for _, f := range m.Fields {
			l := listOf(r, s, f, 5)
			lists(t, s, f, []byte(secondRecords(s, f, l)), l...)
		}
	})
	if slots < 10000 {
		t.Errorf("only %d slots", slots)
	}
}

// P12.1: random values that are changed in few places, and random orders of those that
// are still values.
func TestSpoiltValues(t *testing.T) {
	t.Parallel()
	count := map[api.Errno]int{}
	eachRandom(t, 6, 12000, func(r *rand.Rand, s api.Set, name string, v api.Val) {
		v = value.Copy(v)
		change(r, pick(r, parts(reflect.ValueOf(&v).Elem())))
		order := shuffled(r, v)
		if len(order) > 0 && r.Intn(2) == 0 {
			change(r, pick(r, parts(reflect.ValueOf(&order).Elem())))
		}
		want := value.Check(s, name, v)
		if want == api.OK && len(order) > 0 && !slices.Equal(slices.Sorted(slices.Values(order)), enc.Rising(v)) {
			want = api.ErrOrder
		}
		count[want]++
		if want != api.OK {
			refuses(t, s, name, v, order, want)
			return
		}
		writes(t, s, name, v, order, []byte(secondBytes(s, name, v, order)))
	})
	if count[api.OK] < 1000 || count[api.ErrType] < 1000 || count[api.ErrOrder] < 200 {
		t.Errorf("only %v", count)
	}
}

// otherField is a field like another one, with something else in it.
func otherField(r *rand.Rand, f api.Field) api.Field {
	switch r.Intn(6) {
	case 0:
		f.Card = r.Intn(7) - 1
	case 1:
		f.Type = r.Intn(21) - 1
	case 2:
		f.Key = r.Intn(21) - 1
	case 3:
		f.Ref = pick(r, []string{"", "p.M", "p.N", "p.O", "p.M.N", "p.E", "M", "q"})
	case 4:
		f.Oneof, f.Name, f.Json = 7, "", "?"
	case 5:
		f.Num = pick(r, []int{1 + f.Num%api.MaxNum, 19000, 1 << 20, 1<<29 - 1})
	}
	return f
}

// P12.2: random fields, also such as no message has.
func TestRandomFields(t *testing.T) {
	t.Parallel()
	count := map[bool]int{}
	eachRandom(t, 7, 15000, func(r *rand.Rand, s api.Set, name string, _ api.Val) {
		m, _ := build.Msg(s, name)
		if len(m.Fields) == 0 {
			return
		}
		f := pick(r, m.Fields)
		l := value.Copy(msg("", slot(1, listOf(r, s, f, 6)...))).F[0].L
		if f = otherField(r, f); r.Intn(2) == 0 {
			change(r, pick(r, parts(reflect.ValueOf(&l).Elem())))
		}
		denoted := value.Denotes(s, f, l)
		count[denoted]++
		switch {
		case !denoted:
			denies(t, s, f, api.ErrType, l...)
		case len(l) > 0:
			lists(t, s, f, []byte(secondRecords(s, f, l)), l...)
		}
	})
	if count[true] < 3000 || count[false] < 3000 {
		t.Errorf("only %v", count)
	}
}
