package value_test

import (
	"fmt"
	"math/big"
	"slices"
	"strings"
	"unicode/utf8"

	"signetry/api"
)

// second is the second way to check values: it says in words all that is wrong.
type second struct {
	s     api.Set
	wrong []string
}

// secondWrong is what is wrong with a value as one of a message.
func secondWrong(s api.Set, name string, v api.Val) []string {
	w := &second{s: s}
	w.typed(api.TMsg, name, v)
	return w.wrong
}

// secondDenies is why a field does not denote a list.
func secondDenies(s api.Set, f api.Field, l []api.Val) []string {
	w := &second{s: s}
	w.list(f, l)
	return w.wrong
}

func (w *second) say(what string, is bool) {
	if is {
		w.wrong = append(w.wrong, what)
	}
}

// list says what is wrong with the list of a field.
func (w *second) list(f api.Field, l []api.Val) {
	if len(l) == 0 {
		return
	}
	w.say("a card", f.Card < 1 || f.Card > 4)
	w.say("too many of one", f.Card == 1 && len(l) > 1)
	w.say("too many of opt", f.Card == 2 && len(l) > 1)
	var keys []api.Val
	for _, v := range l {
		if f.Card != 4 {
			w.typed(f.Type, f.Ref, v)
			w.say("a zero", f.Card == 1 && slices.Contains([]string{"int 0", "f32 0", "f64 0", `bytes ""`}, told(v)))
			continue
		}
		if key, isKey := w.entry(f, v); isKey {
			keys = append(keys, key)
		}
	}
	for i := range keys {
		for j := range i {
			same := keyText(keys[j]) == keyText(keys[i])
			w.say("a key twice", same)
			w.say("the order of keys", !same && !isAhead(keys[j], keys[i]))
		}
	}
}

// entry says what is wrong with an entry, and returns its key.
func (w *second) entry(f api.Field, v api.Val) (key api.Val, isKey bool) {
	var numbers []int
	for _, x := range v.F {
		numbers = append(numbers, x.Num)
	}
	w.say("an entry with more", v.Neg || v.Mag > 0 || len(v.B) > 0 || v.Name != "")
	w.say("an entry of another kind", v.Kind != 5)
	w.say("the slots of an entry", fmt.Sprint(numbers) != "[1 2]")
	for i, x := range v.F {
		w.say("a slot of an entry", len(x.L) != 1)
		for _, part := range x.L {
			switch i {
			case 0:
				w.typed(f.Key, "", part)
				key, isKey = part, true
			case 1:
				w.typed(f.Type, f.Ref, part)
			}
		}
	}
	return key, isKey
}

// keyText is a key as a text: no two keys have the same one.
func keyText(v api.Val) string {
	return fmt.Sprint(v.Kind, v.Neg, v.Mag, string(v.B))
}

// isAhead tells whether a key that is not the same comes ahead of another one.
func isAhead(a, b api.Val) bool {
	switch {
	case a.Kind == 1 && b.Kind == 1:
		return number(a).Cmp(number(b)) < 0 || number(a).Cmp(number(b)) == 0 && a.Neg
	case a.Kind == 4 && b.Kind == 4:
		return string(a.B) < string(b.B)
	}
	return false
}

func number(v api.Val) *big.Int {
	n := new(big.Int).SetUint64(v.Mag)
	if v.Neg {
		n.Neg(n)
	}
	return n
}

// typed says why a type does not hold a value.
func (w *second) typed(typ int, ref string, v api.Val) {
	kinds := map[int]int{1: 3, 2: 2, 9: 4, 12: 4, 11: 5}
	for t := range ends {
		kinds[t] = 1
	}
	kind, isType := kinds[typ]
	w.say("a type", !isType)
	w.say("a kind", kind != v.Kind)
	w.say("a sign", v.Neg && (kind != 1 || v.Mag == 0))
	w.say("a magnitude", v.Mag > 0 && kind > 3)
	w.say("bytes", len(v.B) > 0 && kind != 4)
	w.say("a name", v.Name != "" && kind != 5)
	w.say("slots", len(v.F) > 0 && kind != 5)
	switch {
	case kind == 1:
		w.say("below the least", number(v).Cmp(bigOf(ends[typ][0])) < 0)
		w.say("above the most", number(v).Cmp(bigOf(ends[typ][1])) > 0)
	case kind == 2:
		w.say("more than 32 bits", v.Mag>>32 > 0)
	case typ == 9:
		w.say("no UTF-8", !utf8.Valid(v.B))
	case kind == 5:
		w.message(ref, v)
	}
}

// message says why a value is none of a message, as far as names and slots go.
func (w *second) message(name string, v api.Val) {
	w.say("another message", v.Name != name)
	fields, isMsg := map[int]api.Field{}, false
	for _, m := range w.s.Msgs {
		if m.Name == name {
			isMsg = true
			for _, f := range m.Fields {
				fields[f.Num] = f
			}
		}
	}
	w.say("no message", !isMsg)
	oneofs := map[int]map[int]bool{}
	for i, x := range v.F {
		for _, o := range v.F[:i] {
			w.say("a slot twice", o.Num == x.Num)
			w.say("the order of slots", o.Num > x.Num)
		}
		w.say("an empty slot", len(x.L) == 0)
		f, isField := fields[x.Num]
		if !isField {
			w.say("no field", true)
			continue
		}
		if f.Oneof >= 0 {
			if oneofs[f.Oneof] == nil {
				oneofs[f.Oneof] = map[int]bool{}
			}
			oneofs[f.Oneof][x.Num] = true
		}
		w.list(f, x.L)
	}
	for _, some := range oneofs {
		w.say("two of a oneof", len(some) > 1)
	}
}

// compacted is what was said, each once.
func compacted(l []string) []string {
	l = slices.Clone(l)
	slices.Sort(l)
	return slices.Compact(l)
}

// reasons is all that the second way may say of a value of a message.
var reasons = strings.Split("a key twice|a kind|a magnitude|a name|a sign|a slot of an entry|a slot twice|a zero|above the most|an empty slot|an entry of another kind|an entry with more|another message|below the least|bytes|more than 32 bits|no UTF-8|no field|slots|the order of keys|the order of slots|the slots of an entry|too many of one|too many of opt|two of a oneof", "|")
