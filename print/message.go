package print

import (
	"strconv"

	"signetry/api"
)

// message is a message that is being written.
type message struct {
	*lines
	def api.MsgDef
}

func writeMessages(l *lines, all []api.MsgDef) {
	for _, def := range all {
		m := message{l, def}
		m.open("message", def.Name)
		for _, part := range m.parts() {
			part(m)
		}
		m.close()
	}
}

// parts is what writes the lines of a message, in order.
func (m message) parts() [5]func(message) {
	return [...]func(message){message.fields, message.messages, message.enums, message.ranges, message.names}
}

// fields writes the fields and the oneofs. A oneof without fields has no place
// of its own: it is written ahead of a later one, or at the end.
func (m message) fields() {
	next := 0
	for _, f := range m.def.Fields {
		if f.Oneof == noOneof {
			m.field(f)
		}
		next = m.oneofs(next, f.Oneof)
	}
	m.oneofs(next, len(m.def.Oneofs)-1)
}

// oneofs writes those from next up to last, and tells which one is next then.
func (m message) oneofs(next, last int) int {
	for ; next <= last; next++ {
		m.oneof(next)
	}
	return next
}

func (m message) oneof(index int) {
	m.open("oneof", m.def.Oneofs[index].S)
	for _, f := range m.def.Fields {
		if f.Oneof == index {
			m.field(f)
		}
	}
	m.close()
}

func (m message) field(f api.FieldDef) {
	m.line(label(f), typeOf(f), " ", f.Name, " = ", strconv.Itoa(f.Num), option(f), ";")
}

func label(f api.FieldDef) string {
	switch {
	case f.Card == api.Rep:
		return "repeated "
	case f.Card == api.Opt && f.Oneof == noOneof:
		return "optional "
	}
	return ""
}

func typeOf(f api.FieldDef) string {
	if f.Card == api.Map {
		return "map<" + f.Key + ", " + f.Type + ">"
	}
	return f.Type
}

// option cuts what is longer than any text: its literal could be four times as
// long as that.
func option(f api.FieldDef) string {
	if f.Json == "" {
		return ""
	}
	return " [json_name = " + quoted(f.Json[:min(len(f.Json), api.MaxText)]) + "]"
}

func (m message) messages() {
	writeMessages(m.lines, m.def.Msgs)
}

func (m message) enums() {
	writeEnums(m.lines, m.def.Enums)
}

func (m message) ranges() {
	m.reserved(rangesOf(m.def.Ranges, api.MaxNum))
}

func (m message) names() {
	m.reserved(namesOf(m.def.Names))
}
