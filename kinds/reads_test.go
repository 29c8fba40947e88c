package kinds_test

import (
	"math"
	"testing"

	"signetry/api"
	"signetry/kinds"
)

// reading is which types of which class read each other, by their numbers.
func reading() [][]int {
	return [][]int{{5, 3, 13, 4, 8, 14}, {17, 18}, {7, 15}, {6, 16}, {2}, {1}, {9}, {12}, {11}}
}

// secondType tells whether a newer type reads an older one: they are in one list,
// or in the two of strings and bytes.
func secondType(older, newer int) bool {
	find := func(t int) int {
		for i, l := range reading() {
			for _, n := range l {
				if n == t {
					return i
				}
			}
		}
		return -1
	}
	a, b := find(older), find(newer)
	return a >= 0 && a == b || older == 9 && newer == 12
}

// secondReads is what Reads has to return: cards by a table of older ones (lines)
// and newer ones (columns), in which s stands for types that are not packed.
func secondReads(older, newer api.Field) bool {
	const cards = "yyy-" + "yyy-" + "ssy-" + "---y"
	for _, f := range []api.Field{older, newer} {
		if f.Card < 1 || f.Card > 4 {
			return false
		}
		if f.Card == 4 {
			switch f.Key {
			case 5, 3, 13, 4, 8, 17, 18, 7, 15, 6, 16, 9:
			default:
				return false
			}
		}
	}
	if !secondType(older.Type, newer.Type) {
		return false
	}
	if older.Type == 11 && older.Ref != newer.Ref {
		return false
	}
	switch cards[older.Card*4-4+newer.Card-1] {
	case 'y':
		return older.Card != 4 || secondType(older.Key, newer.Key)
	case 's':
		return older.Type == 9 || older.Type == 12 || older.Type == 11
	}
	return false
}

func reads(t *testing.T, older, newer api.Field) {
	t.Helper()
	if got, want := kinds.Reads(older, newer), secondReads(older, newer); got != want {
		t.Errorf("Reads of %+v, %+v is %t", older, newer, got)
	}
}

// P17.3: every two types, and what is none, in all cards, and in what is none.
func TestReads(t *testing.T) {
	cards := []int{1, 2, 3, 4, 0, 5, -1, 6, -4, math.MaxInt, math.MinInt}
	all := append(types(), none()[:10]...)
	for _, a := range all {
		for _, b := range all {
			for _, c := range cards {
				for _, d := range cards {
					reads(t, field(a, c), field(b, d))
				}
			}
		}
	}
}

// P17.3: messages are read if they have the same name, which does not matter for
// other types.
func TestReadsNames(t *testing.T) {
	refs := []string{"", "M", "N", "p.M", "m", "M\x00", "\xff"}
	for _, a := range types() {
		for _, b := range types() {
			for _, c := range []int{1, 2, 3, 4} {
				for _, d := range []int{1, 2, 3, 4} {
					for _, x := range refs {
						for _, y := range refs {
							f, g := field(a, c), field(b, d)
							f.Ref, g.Ref = x, y
							reads(t, f, g)
						}
					}
				}
			}
		}
	}
}

// P17.3: keys of maps: every two types, and what is none, whatever the types of
// the values are.
func TestReadsKeys(t *testing.T) {
	keys := append(types(), none()[:10]...)
	for _, a := range types() {
		for _, b := range types() {
			for _, x := range keys {
				for _, y := range keys {
					reads(t, mapped(x, a), mapped(y, b))
				}
			}
		}
	}
}

// P17.3: the keys of fields that are no maps do not matter, whatever they are.
func TestKeysOfOthers(t *testing.T) {
	for _, card := range []int{1, 2, 3} {
		for _, other := range []int{1, 2, 3, 4} {
			for _, key := range append(types(), none()[:10]...) {
				f, g := field(9, card), field(9, other)
				f.Key = key
				reads(t, f, g)
				reads(t, g, f)
				f.Card, g.Card = 3, 3
				if !kinds.Reads(f, g) || !kinds.Reads(g, f) {
					t.Errorf("the key %d matters", key)
				}
			}
		}
	}
}

// P17.3: names, keys in JSON, numbers and oneofs do not matter.
func TestOtherParts(t *testing.T) {
	for _, a := range types() {
		for _, c := range []int{1, 2, 3, 4} {
			f, g := field(a, c), field(a, c)
			f.Name, f.Json, f.Num, f.Oneof = "a", "b", 1, -1
			g.Name, g.Json, g.Num, g.Oneof = "c", "\xff", -7, 3
			if !kinds.Reads(f, g) || !kinds.Reads(g, f) {
				t.Errorf("%+v and %+v do not read each other", f, g)
			}
		}
	}
}

// P17.3: a map is read by no field of its entries, and reads none.
func TestMapsAlone(t *testing.T) {
	for _, a := range types() {
		for _, card := range []int{1, 2, 3} {
			f := field(a, card)
			f.Key = api.TInt32
			if kinds.Reads(f, field(a, api.Map)) || kinds.Reads(field(a, api.Map), f) {
				t.Errorf("%+v and a map", f)
			}
		}
	}
}

// fields is all fields with a type and a card, as far as these matter.
func fields() (l []api.Field) {
	for _, a := range types() {
		for _, card := range []int{1, 2, 3} {
			l = append(l, field(a, card))
		}
		for _, key := range types() {
			if kinds.Key(key) {
				l = append(l, mapped(key, a))
			}
		}
	}
	for _, f := range l {
		if f.Type == api.TMsg {
			f.Ref = "M"
			l = append(l, f)
		}
	}
	return l
}

// P17.4: each field reads itself; if a field reads an older one, and a newer one
// reads it, the newer one reads the oldest one.
func TestReadsIsPreorder(t *testing.T) {
	l := fields()
	is := make([][]bool, len(l))
	for i, f := range l {
		for _, g := range l {
			is[i] = append(is[i], kinds.Reads(f, g))
		}
		if !is[i][i] {
			t.Errorf("%+v does not read itself", f)
		}
	}
	count := 0
	for i := range l {
		for j := range l {
			for k := range l {
				if is[i][j] && is[j][k] {
					count++
					if !is[i][k] {
						t.Fatalf("%+v is read by %+v, and that by %+v", l[i], l[j], l[k])
					}
				}
			}
		}
	}
	if len(l) != 17*15+15 || count < 10000 {
		t.Errorf("%d fields, %d times", len(l), count)
	}
}
