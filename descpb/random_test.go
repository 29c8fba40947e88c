package descpb_test

import (
	"bytes"
	"fmt"
	"math/rand"
	"reflect"
	"slices"
	"strings"
	"testing"

	"signetry/api"
	"signetry/build"
	"signetry/descpb"
)

// P10.1, P10.2, P10.4: random sets are encoded as the second way encodes them, and
// decoded as what they were, also by the second way; and each has other bytes.
func TestRandomSets(t *testing.T) {
	t.Parallel()
	r := rand.New(rand.NewSource(1))
	sets, parts := map[string]string{}, map[string]int{}
	for range 1000 {
		s := randomSet(r)
		text := secondText(s)
		b := written(text)
		is(t, s, b)
		if again, isSet := secondDecode(b); !isSet || !deepEqual(again, s) {
			t.Fatalf("the second way decodes\n%+v\nas\n%+v", s, again)
		}
		told := fmt.Sprintf("%+v", s)
		if other, isThere := sets[string(b)]; isThere && other != told {
			t.Errorf("%s\nand\n%s\nhave the bytes %x", told, other, b)
		}
		sets[string(b)] = told
		for _, part := range strings.Fields(`10:1 2"p" 3{1 Entry" 17:1 9:1 3".p 2:-1 2:-2147483648} 2:536870912} 5"r" 10"r"`) {
			parts[part] += strings.Count(text, part)
		}
	}
	for part, count := range parts {
		if count < 50 {
			t.Errorf("only %d of %s", count, part)
		}
	}
	if len(sets) < 800 {
		t.Errorf("only %d sets", len(sets))
	}
}

// parts is all numbers, texts, bools and lists in a value.
func parts(v reflect.Value) (l []reflect.Value) {
	switch v.Kind() {
	case reflect.Struct:
		for i := range v.NumField() {
			l = append(l, parts(v.Field(i))...)
		}
	case reflect.Slice, reflect.Array:
		for i := range v.Len() {
			l = append(l, parts(v.Index(i))...)
		}
		if v.Kind() == reflect.Slice {
			l = append(l, v)
		}
	default:
		l = append(l, v)
	}
	return l
}

// spoil changes something in a set that shares no memory with another one.
func spoil(r *rand.Rand, s *api.Set) {
	all := parts(reflect.ValueOf(s).Elem())
	switch v := pick(r, all); v.Kind() {
	case reflect.Bool:
		v.SetBool(!v.Bool())
	case reflect.Int:
		v.SetInt(pick(r, []int64{v.Int() - 1, v.Int() + 1, 0, -1, 1, 3, 4, 5, 9, 11, 14, 18, 19, 19000, 1<<29 - 1, 1 << 29, 1 << 31, -1 << 31, 1<<63 - 1, -1 << 63}))
	case reflect.String:
		v.SetString(pick(r, []string{"", "a", "x", "1a", "p.A", "p", "A", ".A", "E", v.String() + "x", v.String() + ".", "x." + v.String(), "3Entry", "\xff", strings.Repeat("x", 33)}))
	case reflect.Slice:
		n := v.Len()
		switch i := r.Intn(n + 1); {
		case i == n:
			v.Set(reflect.Append(v, reflect.Zero(v.Type().Elem())))
		case r.Intn(2) == 0:
			v.Set(reflect.AppendSlice(v.Slice3(0, i, i), v.Slice(i+1, n)))
		default:
			reflect.Swapper(v.Interface())(i, r.Intn(n))
		}
	}
}

// P10.1: sets that are not valid have no bytes, and the others those of the second
// way.
func TestSpoiltSets(t *testing.T) {
	t.Parallel()
	r := rand.New(rand.NewSource(2))
	valid := 0
	for range 2000 {
		s := build.Copy(randomSet(r))
		for range 1 + r.Intn(2) {
			spoil(r, &s)
		}
		if build.Check(s) == api.OK {
			valid++
			is(t, s, written(secondText(s)))
			continue
		}
		if b, e := descpb.Encode(s); e != api.ErrArg || len(b) > 0 {
			t.Errorf("%d, %x of %+v", e, b, s)
		}
	}
	if valid < 200 || valid > 1500 {
		t.Errorf("%d are valid", valid)
	}
}

// eachList calls something for each list of records in a list, also for itself.
func eachList(l *[]*record, call func(l *[]*record)) {
	call(l)
	for _, x := range *l {
		if x.isPart {
			eachList(&x.parts, call)
		}
	}
}

// anyPlace is one of all lists of records with something in it.
func anyPlace(r *rand.Rand, l *[]*record) *[]*record {
	var all []*[]*record
	eachList(l, func(l *[]*record) {
		for range *l {
			all = append(all, l)
		}
	})
	return pick(r, all)
}

// decodesAs checks that bytes are decoded as the second way decodes them.
func decodesAs(t *testing.T, what string, b []byte) (isSet bool) {
	t.Helper()
	want, isSet := secondDecode(b)
	got, e := descpb.Decode(b)
	switch {
	case isSet && (e != api.OK || !deepEqual(got, want)):
		t.Errorf("%s: %d and %.3000s\nwant %.3000s\nof %.5000x", what, e, fmt.Sprint(got), fmt.Sprint(want), b)
	case !isSet && (e != api.ErrForm || !deepEqual(got, api.Set{})):
		t.Errorf("%s: %d and %.3000s, want none of %.5000x", what, e, fmt.Sprint(got), b)
	case isSet:
		if again, e := descpb.Encode(got); e != api.OK || !bytes.Equal(again, b) {
			t.Errorf("%s: %d, %.5000x, want %.5000x", what, e, again, b)
		}
	}
	return isSet
}

// change is what is done with one record of some.
type change struct {
	what string
	do   func(r *rand.Rand, l *[]*record, i int)
}

func recordChanges() []change {
	return []change{
		{"left out", func(r *rand.Rand, l *[]*record, i int) { *l = slices.Delete(*l, i, i+1) }},
		{"doubled", func(r *rand.Rand, l *[]*record, i int) { *l = slices.Insert(*l, i, (*l)[i]) }},
		{"doubled at the end", func(r *rand.Rand, l *[]*record, i int) { *l = append(*l, (*l)[i]) }},
		{"exchanged", func(r *rand.Rand, l *[]*record, i int) {
			j := r.Intn(len(*l))
			(*l)[i], (*l)[j] = (*l)[j], (*l)[i]
		}},
		{"with another number", func(r *rand.Rand, l *[]*record, i int) {
			(*l)[i].num = pick(r, []int{1, 2, 3, 4, 5, 6, 7, 8, 9, 10, 11, 12, 13, 16, 17, 18, 1<<29 - 1, 0, 1 << 29})
		}},
		{"with another type", func(r *rand.Rand, l *[]*record, i int) { (*l)[i].kind = r.Intn(8) }},
		{"with a long tag", func(r *rand.Rand, l *[]*record, i int) { (*l)[i].longTag = 1 + r.Intn(3) }},
		{"with a long number", func(r *rand.Rand, l *[]*record, i int) { (*l)[i].longer = 1 + r.Intn(3) }},
		{"with another value", func(r *rand.Rand, l *[]*record, i int) {
			x := (*l)[i]
			x.n = pick(r, []uint64{0, 1, 2, 3, 4, 5, 8, 9, 11, 14, 17, 18, 19, 127, 128, 1 << 29, 1 << 31, 1<<63 - 1, 1 << 63, 1<<64 - 1, 1<<64 - 128, x.n + 1, x.n - 1})
			x.text = pick(r, []string{"", ".", "a", "A", "E", ".A", ".p.A", ".A.", "p", "key", "1Entry", "proto2", "proto3", x.text + "x", "." + x.text, strings.TrimPrefix(x.text, "."), "\xff", x.text + "\x00"})
		}},
		{"empty", func(r *rand.Rand, l *[]*record, i int) { (*l)[i].text, (*l)[i].parts = "", nil }},
		{"behind something else", func(r *rand.Rand, l *[]*record, i int) {
			*l = slices.Insert(*l, i, pick(r, []*record{
				{num: 17, n: 1}, {num: 17}, {num: 9}, {num: 9, n: 1<<64 - 1}, {num: 10, n: uint64(r.Intn(3))}, {num: 2, kind: 2}, {num: 2, kind: 2, text: "p"}, {num: 6, kind: 2, text: ".A"}, {num: 4, n: 1},
				{num: 7, kind: 2, isPart: true}, {num: 7, kind: 2, isPart: true, parts: []*record{{num: 7, n: 1}}}, {num: 8, kind: 2, isPart: true, parts: []*record{{num: 1, kind: 2, text: "o0"}}}, {num: 1}, {num: 5, kind: 2, text: "x"},
			}))
		}},
	}
}

// P10.2, P10.4, P10.5: random changes of the records of random sets are decoded as
// the second way decodes them.
func TestChangedRecords(t *testing.T) {
	t.Parallel()
	r := rand.New(rand.NewSource(3))
	sets, others := map[string]int{}, map[string]int{}
	for range 300 {
		text := secondText(randomSet(r))
		for _, c := range recordChanges() {
			l := records(text)
			from := anyPlace(r, &l)
			c.do(r, from, r.Intn(len(*from)))
			if decodesAs(t, c.what, bytesOf(l)) {
				sets[c.what]++
			} else {
				others[c.what]++
			}
		}
		l := records(text)
		for range 2 + r.Intn(3) {
			if len(l) > 0 {
				from := anyPlace(r, &l)
				pick(r, recordChanges()).do(r, from, r.Intn(len(*from)))
			}
		}
		decodesAs(t, "many changes", bytesOf(l))
	}
	for _, c := range recordChanges() {
		if others[c.what] < 50 {
			t.Errorf("%s: only %d are not sets", c.what, others[c.what])
		}
		isOther := slices.Contains([]string{"left out", "exchanged", "with another value"}, c.what)
		if sets[c.what] < 10 && isOther || sets[c.what] > 0 && strings.Contains(c.what, "doubled") {
			t.Errorf("%s: %d are sets", c.what, sets[c.what])
		}
	}
}

// P10.2: random changes of single bytes are decoded as the second way decodes them.
func TestChangedBytes(t *testing.T) {
	t.Parallel()
	r := rand.New(rand.NewSource(4))
	sets := 0
	for range 3000 {
		b := written(secondText(randomSet(r)))
		for range 1 + r.Intn(2) {
			i := r.Intn(len(b))
			switch r.Intn(4) {
			case 0:
				b[i] = byte(r.Intn(256))
			case 1:
				b[i] ^= 1 << r.Intn(8)
			case 2:
				b = slices.Insert(b, i, pick(r, b))
			case 3:
				b[i] = b[r.Intn(len(b))]
			}
		}
		if decodesAs(t, "bytes", b) {
			sets++
		}
	}
	if sets < 75 {
		t.Errorf("only %d are sets", sets)
	}
}
