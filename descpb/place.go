package descpb

import (
	"strconv"
	"strings"

	"signetry/api"
)

// msgsIn is the messages that a file declares directly in its package, or directly
// in one of its messages. Another file may have that message's name as its package.
func (w *writer) msgsIn(path, outer string) []api.Msg {
	var l []api.Msg
	for _, m := range w.set.Msgs {
		if m.Path == path && outerOf(m.Name) == outer {
			l = append(l, m)
		}
	}
	return l
}

// enumsIn is likewise the enums.
func (w *writer) enumsIn(path, outer string) []api.Enum {
	var l []api.Enum
	for _, n := range w.set.Enums {
		if n.Path == path && outerOf(n.Name) == outer {
			l = append(l, n)
		}
	}
	return l
}

// svcsIn is the services of a file: there are none in messages.
func (w *writer) svcsIn(path string) []api.Svc {
	var l []api.Svc
	for _, v := range w.set.Svcs {
		if v.Path == path {
			l = append(l, v)
		}
	}
	return l
}

// mapsOf is the fields of a message that are maps.
func mapsOf(m api.Msg) []api.Field {
	var l []api.Field
	for _, x := range m.Fields {
		if x.Card == api.Map {
			l = append(l, x)
		}
	}
	return l
}

// plainFields is the fields of a message as they are encoded: a map is a repeated
// message, its entry.
func plainFields(m api.Msg) []api.Field {
	var l []api.Field
	for _, x := range m.Fields {
		if x.Card == api.Map {
			x.Card, x.Type, x.Ref = api.Rep, api.TMsg, joined(m.Name, entryOf(x))
		}
		l = append(l, x)
	}
	return l
}

// entryOf is the name of the entry of a map. It is no identifier, so that nothing
// else in the message has it.
func entryOf(x api.Field) string {
	return strconv.Itoa(x.Num) + "Entry"
}

func joined(outer, name string) string {
	if outer == "" {
		return name
	}
	return outer + "." + name
}

// outerOf is a full name without its last name.
func outerOf(full string) string {
	return full[:max(strings.LastIndexByte(full, '.'), 0)]
}

// lastOf is the last name of a full name.
func lastOf(full string) string {
	return full[strings.LastIndexByte(full, '.')+1:]
}
