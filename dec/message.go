package dec

import (
	"cmp"
	"slices"

	"signetry/api"
	"signetry/build"
	"signetry/kinds"
	"signetry/value"
	"signetry/wire"
)

// asBytes is the wire type of records of bytes.
const asBytes = 2

// definitions is the messages of a set that were looked up: bytes may have far more
// messages in them than a set has.
type definitions struct {
	set   api.Set
	found map[string]api.Msg
}

// of is the message with a name.
func (d *definitions) of(name string) api.Msg {
	def, isFound := d.found[name]
	if !isFound {
		def, _ = build.Msg(d.set, name)
		d.found[name] = def
	}
	return def
}

// message reads bytes, which are so deep, into a value.
type message struct {
	all     *definitions
	def     api.Msg
	deep    int
	v       *api.Val
	unknown []api.Rec
}

// effect is what a record does that fits a field.
type effect func(m *message, f api.Field, r api.Rec)

// effects is what records do, by the card of the field that they fit.
func effects() [5]effect {
	return [...]effect{
		api.One: (*message).implicit,
		api.Opt: (*message).optional,
		api.Rep: (*message).repeated,
		api.Map: (*message).mapped,
	}
}

// read reads bytes into the value. That it may have slots already is how bytes are
// appended to those that were read before: no record hangs on earlier ones but by
// what these did to the slots.
func (m *message) read(b []byte) {
	if m.deep > mostDeep {
		need(api.ErrLimit)
	}
	l, e := wire.Split(b)
	need(e)
	for _, r := range l {
		f, found := build.Field(m.def, r.Num)
		if !found || !fits(f, r) {
			m.unknown = append(m.unknown, r)
			continue
		}
		m.makeOnly(f)
		effects()[f.Card](m, f, r)
	}
}

// fits tells whether a record with the number of a field is written like its values,
// or like all of them at once.
func fits(f api.Field, r api.Rec) bool {
	if f.Card == api.Map {
		return r.Wire == asBytes
	}
	return r.Wire == kinds.Wire(f.Type) || isPacked(f, r)
}

// isPacked tells whether a record has all values of a field.
func isPacked(f api.Field, r api.Rec) bool {
	return f.Card == api.Rep && kinds.Packs(f.Type) && r.Wire == asBytes
}

// makeOnly removes the slots of all other fields of the oneof of a field.
func (m *message) makeOnly(f api.Field) {
	if f.Oneof < 0 {
		return
	}
	for _, other := range m.def.Fields {
		if other.Oneof == f.Oneof && other.Num != f.Num {
			m.remove(other.Num)
		}
	}
}

func (m *message) implicit(f api.Field, r api.Rec) {
	v := m.single(f, r)
	if value.IsZero(v) {
		m.remove(f.Num)
		return
	}
	m.slot(f.Num).L = []api.Val{v}
}

func (m *message) optional(f api.Field, r api.Rec) {
	x := m.slot(f.Num)
	if f.Type != api.TMsg {
		x.L = []api.Val{m.single(f, r)}
		return
	}
	if len(x.L) == 0 {
		x.L = []api.Val{zero(f)}
	}
	m.nested(&x.L[0], r.B)
}

func (m *message) repeated(f api.Field, r api.Rec) {
	if !isPacked(f, r) {
		x := m.slot(f.Num)
		x.L = append(x.L, m.single(f, r))
		return
	}
	// A list without values makes no slot.
	if l := packed(f.Type, r.B); len(l) > 0 {
		x := m.slot(f.Num)
		x.L = append(x.L, l...)
	}
}

func (m *message) mapped(f api.Field, r api.Rec) {
	e := m.entry(f, r.B)
	x := m.slot(f.Num)
	x.L = append(x.L, e)
}

// nested reads bytes into a message that is inside of this one.
func (m *message) nested(v *api.Val, b []byte) {
	inner := &message{all: m.all, def: m.all.of(v.Name), deep: m.deep + 1, v: v}
	inner.read(b)
}

// slot is the slot with a number, an empty one if there was none.
func (m *message) slot(num int) *api.Slot {
	at, found := m.find(num)
	if !found {
		m.v.F = slices.Insert(m.v.F, at, api.Slot{Num: num})
	}
	return &m.v.F[at]
}

// remove removes the slot with a number, if there is one.
func (m *message) remove(num int) {
	if at, found := m.find(num); found {
		m.v.F = slices.Delete(m.v.F, at, at+1)
	}
}

// find is where the slot with a number is, or has its place.
func (m *message) find(num int) (int, bool) {
	return slices.BinarySearchFunc(m.v.F, num, func(x api.Slot, num int) int { return cmp.Compare(x.Num, num) })
}
