package tree

import "signetry/api"

const (
	mostOneofs = 16
	noOneof    = -1
)

// message is a message that is being read, and how deep it is nested.
type message struct {
	*parser
	def  api.MsgDef
	deep int
}

func readMessage(x *parser, deep int) api.MsgDef {
	x.pass()
	// Only an identifier is too deep: any other token is not allowed here at all.
	w := x.of(api.WordIdent)
	if deep > api.MaxDeep {
		panic(stop{w.At, api.ErrDeep})
	}
	m := &message{parser: x, def: api.MsgDef{Name: w.Text, At: w.At}, deep: deep}
	m.block(m.elements(), m.plain)
	return m.def
}

func (m *message) elements() elements {
	return elements{
		";": m.empty, "message": m.message, "enum": m.enum, "oneof": m.oneof, "reserved": m.reserved,
		"optional": m.optional, "repeated": m.repeated, "map": m.mapped,
		"option": m.refuse, "extensions": m.refuse, "extend": m.refuse, "group": m.refuse,
	}
}

func (m *message) message() {
	m.room(len(m.def.Msgs), api.MaxMsgs)
	m.def.Msgs = append(m.def.Msgs, readMessage(m.parser, m.deep+1))
}

func (m *message) enum() {
	m.room(len(m.def.Enums), api.MaxMsgs)
	m.def.Enums = append(m.def.Enums, readEnum(m.parser))
}

func (m *message) oneof() {
	m.room(len(m.def.Oneofs), mostOneofs)
	m.pass()
	w := m.of(api.WordIdent)
	m.def.Oneofs = append(m.def.Oneofs, api.Text{S: w.Text, At: w.At})
	m.block(elements{
		";": m.empty, "option": m.refuse, "optional": m.refuse, "repeated": m.refuse, "map": m.refuse, "group": m.refuse,
	}, m.choice)
}

func (m *message) reserved() {
	m.def.Ranges, m.def.Names = m.reserve(m.def.Ranges, m.def.Names, bounds{max: api.MaxNum})
}

// roomForField is asked ahead of all that a field has: where there is none, a
// token that starts no field is refused as one too many all the same.
func (m *message) roomForField() {
	m.room(len(m.def.Fields), api.MaxFields)
}

func (m *message) plain() {
	m.roomForField()
	m.typed(api.One, noOneof)
}

func (m *message) optional() {
	m.roomForField()
	m.pass()
	m.typed(api.Opt, noOneof)
}

func (m *message) repeated() {
	m.roomForField()
	m.pass()
	m.typed(api.Rep, noOneof)
}

// choice is a field of a oneof: of the last one, since there are none in others.
func (m *message) choice() {
	m.roomForField()
	m.typed(api.Opt, len(m.def.Oneofs)-1)
}

func (m *message) mapped() {
	m.roomForField()
	m.pass()
	f := api.FieldDef{Card: api.Map, Oneof: noOneof}
	m.expect("<")
	f.Key, f.TypeAt = m.name()
	m.expect(",")
	f.Type, _ = m.name()
	m.expect(">")
	m.named(f)
}

// typed reads a field from its type on.
func (m *message) typed(card, oneof int) {
	f := api.FieldDef{Card: card, Oneof: oneof}
	f.Type, f.TypeAt = m.name()
	m.named(f)
}

// named reads the rest of a field, from its identifier on.
func (m *message) named(f api.FieldDef) {
	w := m.of(api.WordIdent)
	f.Name, f.At = w.Text, w.At
	m.expect("=")
	n := m.of(api.WordNum)
	f.Num, f.NumAt = n.N, n.At
	if m.takes("[") {
		m.expect("json_name", "=")
		f.Json = m.of(api.WordLit).Text
		m.expect("]")
	}
	m.expect(";")
	m.def.Fields = append(m.def.Fields, f)
}
