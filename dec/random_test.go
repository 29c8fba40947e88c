package dec_test

import (
	"bytes"
	"encoding/binary"
	"fmt"
	"math/big"
	"math/rand"
	"slices"
	"strings"
	"testing"

	"signetry/api"
	"signetry/build"
	"signetry/enc"
	"signetry/value"
	"signetry/wire"
)

// randomSet is a set of messages with random fields.
func randomSet(t testing.TB, r *rand.Rand) api.Set {
	t.Helper()
	text := "a:package p;enum E{Z=0;A=1;B=-7;}"
	for _, name := range []string{"M", "N", "O"} {
		text += "message " + name + "{" + randomFields(r)
		if name == "M" {
			text += "message N{" + randomFields(r) + "}"
		}
		text += "}"
	}
	return built(t, text)
}

// typeNames is the types that random fields have, messages and enums often.
var typeNames = strings.Fields("double float int64 uint64 int32 fixed64 fixed32 bool string bytes uint32 sfixed32 sfixed64 sint32 sint64 M N O M.N E M N O M.N string bytes")

func randomFields(r *rand.Rand) string {
	var b strings.Builder
	numbers := r.Perm(25)[:r.Intn(9)]
	if r.Intn(2) == 0 {
		numbers = append(numbers, 1<<29-2)
	}
	isOpen := false
	for i, n := range numbers {
		typ := pick(r, typeNames)
		switch {
		case isOpen && r.Intn(3) == 0:
			b.WriteString("}")
			isOpen = false
		case !isOpen && r.Intn(4) == 0:
			fmt.Fprintf(&b, "oneof o%d{", i)
			isOpen = true
		}
		switch r.Intn(4) {
		case 0:
			if !isOpen {
				typ = "optional " + typ
			}
		case 1:
			if !isOpen {
				typ = "repeated " + typ
			}
		case 2:
			if !isOpen {
				typ = fmt.Sprintf("map<%s,%s>", types[pick(r, keyTypes)], typ)
			}
		}
		fmt.Fprintf(&b, "%s f%d=%d;", typ, i, n+1)
	}
	if isOpen {
		b.WriteString("}")
	}
	return b.String()
}

// valueOf is a random value of a message, at most so deep.
func valueOf(r *rand.Rand, s api.Set, name string, deep int) api.Val {
	v := msg(name)
	m := s.Msgs[slices.IndexFunc(s.Msgs, func(m api.Msg) bool { return m.Name == name })]
	taken := map[int]bool{}
	for _, f := range m.Fields {
		if !taken[f.Oneof] && r.Intn(3) > 0 && deep > 3 {
			v.F = append(v.F, slot(f.Num, listOf(r, s, f, deep-1)...))
			taken[f.Oneof] = f.Oneof >= 0
		}
	}
	return v
}

// listOf is a random list that a field denotes, not empty.
func listOf(r *rand.Rand, s api.Set, f api.Field, deep int) (l []api.Val) {
	many := 1
	if f.Card == api.Rep || f.Card == api.Map {
		many += r.Intn(4)
	}
	for range many {
		v := held(r, s, f.Type, f.Ref, deep)
		switch {
		case f.Card == api.Map:
			key := held(r, s, f.Key, "", deep)
			if !slices.ContainsFunc(l, func(o api.Val) bool { return told(o.F[0].L[0]) == told(key) }) {
				l = append(l, entry(key, v))
			}
			continue
		case f.Card == api.One:
			for isZero(v) {
				v = held(r, s, f.Type, f.Ref, deep)
			}
		}
		l = append(l, v)
	}
	if f.Card == api.Map {
		slices.SortFunc(l, func(a, b api.Val) int {
			if isAhead(a.F[0].L[0], b.F[0].L[0]) {
				return -1
			}
			return 1
		})
	}
	return l
}

// byType is samples of all types.
var byType = samples()

// bounds is the least and the greatest integer of the types that hold some.
var bounds = map[int][2]string{
	api.TBool:     {"0", "1"},
	api.TInt32:    {"-2147483648", "2147483647"},
	api.TSint32:   {"-2147483648", "2147483647"},
	api.TSfixed32: {"-2147483648", "2147483647"},
	api.TEnum:     {"-2147483648", "2147483647"},
	api.TUint32:   {"0", "4294967295"},
	api.TFixed32:  {"0", "4294967295"},
	api.TInt64:    {"-9223372036854775808", "9223372036854775807"},
	api.TSint64:   {"-9223372036854775808", "9223372036854775807"},
	api.TSfixed64: {"-9223372036854775808", "9223372036854775807"},
	api.TUint64:   {"0", "18446744073709551615"},
	api.TFixed64:  {"0", "18446744073709551615"},
}

// held is a random value that a type holds.
func held(r *rand.Rand, s api.Set, typ int, ref string, deep int) api.Val {
	ends, isInt := bounds[typ]
	switch {
	case typ == api.TMsg:
		return valueOf(r, s, ref, deep-1)
	case r.Intn(2) == 0:
		return pick(r, byType[typ]).v
	case isInt:
		least, most := bigOf(whole(ends[0])), bigOf(whole(ends[1]))
		n := new(big.Int).Sub(most, least)
		n.Rand(r, n.Add(n, big.NewInt(1)))
		return whole(n.Add(n, least).String())
	case typ == api.TFloat:
		return f32(uint64(r.Uint32()))
	case typ == api.TDouble:
		return f64(r.Uint64())
	}
	return str(strings.Repeat(pick(r, []string{"a", "ä", "\x00", "\U0001F600"}), r.Intn(40)))
}

// eachRandom calls with random values of random sets, as many as that.
func eachRandom(t *testing.T, seed int64, count int, call func(r *rand.Rand, s api.Set, name string, v api.Val)) {
	t.Helper()
	r := rand.New(rand.NewSource(seed))
	var s api.Set
	for i := range count {
		if i%20 == 0 {
			s = randomSet(t, r)
		}
		name := pick(r, s.Msgs).Name
		v := valueOf(r, s, name, 1+r.Intn(12))
		if many, _ := value.Size(v); many > 1000 {
			continue
		}
		call(r, s, name, v)
	}
}

// shuffled is a random order of a value.
func shuffled(r *rand.Rand, v api.Val) []int {
	order := enc.Rising(v)
	r.Shuffle(len(order), func(i, j int) { order[i], order[j] = order[j], order[i] })
	return order
}

// wild is random bytes that are mostly those of a message with some fields, with all
// that bytes may have.
func wild(r *rand.Rand, s api.Set, fields []api.Field, deep int) (b []byte) {
	for range r.Intn(5) {
		f := api.Field{Num: 1 + r.Intn(30), Type: pick(r, []int{api.TInt32, api.TString, api.TDouble}), Card: api.Opt}
		if len(fields) > 0 && r.Intn(8) > 0 {
			f = pick(r, fields)
		}
		b = append(b, wildRecord(r, s, f, deep)...)
	}
	return b
}

// wildRecord is a record that mostly is one of a field.
func wildRecord(r *rand.Rand, s api.Set, f api.Field, deep int) []byte {
	form := forms[f.Type]
	wireType := wires[form]
	var content []byte
	switch {
	case r.Intn(12) == 0:
		form = pick(r, []string{"plus", "four", "eight", "text"})
		wireType = wires[form]
		content = wildValue(r, s, f, form, deep)
	case f.Card == api.Map:
		wireType = 2
		pair := []api.Field{{Num: 1, Type: f.Key, Card: api.One}, {Num: 2, Type: f.Type, Ref: f.Ref, Card: api.One}}
		content = wild(r, s, pair, deep-1)
	case f.Card == api.Rep && r.Intn(2) == 0 && packs(f.Type):
		wireType = 2
		for range r.Intn(5) {
			content = append(content, wildValue(r, s, f, form, deep)...)
		}
		if len(content) > 0 && r.Intn(12) == 0 {
			content = content[:len(content)-1]
		}
	default:
		content = wildValue(r, s, f, form, deep)
	}
	b := wildVarint(r, uint64(f.Num)<<3|uint64(wireType))
	if wireType == 2 {
		b = append(b, wildVarint(r, uint64(len(content)))...)
	}
	return append(b, content...)
}

// wildValue is what a record of a field has, in a form.
func wildValue(r *rand.Rand, s api.Set, f api.Field, form string, deep int) []byte {
	switch form {
	case "plus", "zigzag":
		return wildVarint(r, wildNumber(r))
	case "four":
		return binary.LittleEndian.AppendUint32(nil, uint32(wildNumber(r)))
	case "eight":
		return binary.LittleEndian.AppendUint64(nil, wildNumber(r))
	case "text":
		return []byte(pick(r, []string{"", "a", "b", "ab", "\u00e4", "\x00", "\u20ac", "a\u00e4b"}) + pick(r, append(slices.Repeat([]string{""}, 30), "\xff", "\xc3")))
	}
	if deep <= 0 {
		return nil
	}
	m, _ := build.Msg(s, f.Ref)
	return wild(r, s, m.Fields, deep-1)
}

func wildNumber(r *rand.Rand) uint64 {
	if r.Intn(3) > 0 {
		return pick(r, []uint64{0, 0, 0, 1, 2, 3, 127, 128, 300, 1<<31 - 1, 1 << 31, 1<<32 - 1, 1 << 32, 1<<32 + 1, 1<<63 - 1, 1 << 63, 1<<64 - 1, 1<<64 - 1<<31})
	}
	return r.Uint64() >> r.Intn(64)
}

// wildVarint is a number, sometimes in more bytes than it needs, and seldom in more
// than there may be.
func wildVarint(r *rand.Rand, n uint64) []byte {
	b := wire.Var(nil, n)
	if r.Intn(6) > 0 {
		return b
	}
	more := r.Intn(4)
	if r.Intn(40) > 0 {
		more = min(more, 10-len(b))
	}
	if more > 0 {
		b[len(b)-1] |= 0x80
		b = append(b, bytes.Repeat([]byte{0x80}, more-1)...)
		b = append(b, 0)
	}
	return b
}

// mutated is bytes that are changed in one place, or in which records stand elsewhere.
func mutated(r *rand.Rand, b []byte) []byte {
	b = slices.Clone(b)
	i, j := r.Intn(len(b)+1), r.Intn(len(b)+1)
	i, j = min(i, j), max(i, j)
	switch r.Intn(7) {
	case 0:
		return b[:i]
	case 1:
		return slices.Delete(b, i, j)
	case 2:
		return slices.Insert(b, i, byte(r.Intn(256)))
	case 3:
		return slices.Insert(b, i, b[i:j]...)
	case 4:
		if i < len(b) {
			b[i] ^= 1 << r.Intn(8)
		}
		return b
	}
	l, e := wire.Split(b)
	if e != api.OK || len(l) == 0 {
		return b
	}
	if r.Intn(2) == 0 {
		l = append(l, pick(r, l))
	}
	r.Shuffle(len(l), func(i, j int) { l[i], l[j] = l[j], l[i] })
	all, _ := wire.Bytes(l)
	return all
}

// likeSecond checks that bytes are decoded as by the second way, and tells with which
// error.
func likeSecond(t *testing.T, s api.Set, name string, b []byte) api.Errno {
	t.Helper()
	v, unknown, e := secondMess(s, name, string(b))
	if e != api.OK {
		refuses(t, s, name, b, e)
		return e
	}
	var l [][]byte
	for _, raw := range unknown {
		l = append(l, []byte(raw))
	}
	reads(t, s, name, b, v, l...)
	return e
}

// P13.1: random bytes of messages are decoded as by the second way.
func TestRandomBytes(t *testing.T) {
	t.Parallel()
	r := rand.New(rand.NewSource(20))
	count := map[api.Errno]int{}
	var s api.Set
	for i := range 20000 {
		if i%20 == 0 {
			s = randomSet(t, r)
		}
		m := pick(r, s.Msgs)
		b := wild(r, s, m.Fields, 5)
		if i%4 == 0 {
			b = mutated(r, b)
		}
		count[likeSecond(t, s, m.Name, b)]++
	}
	if count[api.OK] < 10000 || count[api.ErrUtf] < 150 || count[api.ErrTrunc] < 150 || count[api.ErrForm] < 150 || count[api.ErrWire] < 10 {
		t.Errorf("only %v", count)
	}
}

// P13.1: the bytes of random values, in random orders and changed.
func TestChangedBytes(t *testing.T) {
	t.Parallel()
	count := map[api.Errno]int{}
	eachRandom(t, 21, 4000, func(r *rand.Rand, s api.Set, name string, v api.Val) {
		b := encoded(t, s, name, v, shuffled(r, v))
		for range 3 {
			b = mutated(r, b)
			count[likeSecond(t, s, name, b)]++
		}
	})
	if count[api.OK] < 2500 || count[api.ErrTrunc] < 500 || count[api.ErrForm] < 50 || count[api.ErrWire] < 50 || count[api.ErrUtf] < 25 {
		t.Errorf("only %v", count)
	}
}

// P13.1: the bytes of a value of one message are read as another one.
func TestBytesOfOtherMessages(t *testing.T) {
	t.Parallel()
	count := map[api.Errno]int{}
	eachRandom(t, 22, 6000, func(r *rand.Rand, s api.Set, name string, v api.Val) {
		count[likeSecond(t, s, pick(r, s.Msgs).Name, encoded(t, s, name, v, nil))]++
	})
	if count[api.OK] < 2000 || count[api.ErrTrunc] < 40 || count[api.ErrForm] < 40 || count[api.ErrUtf] < 20 {
		t.Errorf("only %v", count)
	}
}
