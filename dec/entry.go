package dec

import (
	"slices"

	"signetry/api"
	"signetry/value"
)

// entry is the entry of a map that bytes encode.
func (m *message) entry(f api.Field, b []byte) api.Val {
	v := api.Val{Kind: api.KMsg}
	inner := &message{all: m.all, def: entryOf(f), deep: m.deep + 1, v: &v}
	inner.read(b)
	for _, part := range inner.def.Fields {
		x := inner.slot(part.Num)
		if len(x.L) == 0 {
			x.L = []api.Val{zero(part)}
		}
	}
	return v
}

// entryOf is the message that the entries of a map are read as.
func entryOf(f api.Field) api.Msg {
	card := api.One
	if f.Type == api.TMsg {
		card = api.Opt
	}
	return api.Msg{Fields: []api.Field{
		{Num: 1, Type: f.Key, Card: api.One, Oneof: -1},
		{Num: 2, Type: f.Type, Ref: f.Ref, Card: card, Oneof: -1},
	}}
}

// settle puts the entries of all maps in order. While bytes are read they stand as
// they come: nothing that is read hangs on them, and to insert each of them where it
// belongs would take time with the square of their number.
func settle(v *api.Val) {
	for i := range v.F {
		x := &v.F[i]
		if isMap(x.L) {
			x.L = lastOnes(x.L)
			slices.SortFunc(x.L, byKey)
		}
		for j := range x.L {
			settle(&x.L[j])
		}
	}
}

// isMap tells whether the values of a slot are entries: a message has a name.
func isMap(l []api.Val) bool {
	return l[0].Kind == api.KMsg && l[0].Name == ""
}

// key is the key of an entry, as that of a map of Go.
type key struct {
	neg  bool
	mag  uint64
	text string
}

func keyOf(entry api.Val) key {
	k := entry.F[0].L[0]
	return key{k.Neg, k.Mag, string(k.B)}
}

// lastOnes is the last ones of the entries with each key.
func lastOnes(l []api.Val) []api.Val {
	last := map[key]int{}
	for i, v := range l {
		last[keyOf(v)] = i
	}
	var all []api.Val
	for i, v := range l {
		if last[keyOf(v)] == i {
			all = append(all, v)
		}
	}
	return all
}

func byKey(a, b api.Val) int {
	switch x, y := a.F[0].L[0], b.F[0].L[0]; {
	case value.Less(x, y):
		return -1
	case value.Less(y, x):
		return 1
	}
	return 0
}
