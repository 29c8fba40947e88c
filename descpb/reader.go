package descpb

import (
	"slices"
	"strings"

	"signetry/api"
	"signetry/wire"
)

// mostText is how long the strings in the bytes of a set may be: a period, and the
// full name of an entry. Longer ones are not read, as all that is declared in a
// message has a copy of its name, and these would grow with the square of the bytes.
const mostText = 1 + api.MaxFull + len(".536870911Entry")

// reader reads parts, and adds what they declare to a set.
type reader struct {
	set     api.Set
	entries map[string]api.Msg
}

// refusal is what is thrown where bytes are not those of a set, up to readSet.
type refusal struct{}

// actions is what is done with each record of a part, by its number.
type actions map[int]func(api.Rec)

// readSet is the set that bytes seem to be those of. If they are those of a set,
// then it is that one.
func readSet(b []byte) (s api.Set, isRead bool) {
	defer func() {
		if r := recover(); r != nil {
			// Nothing but a refusal is ever thrown here; anything else would be a mistake
			// of this package, and must not pass for bytes that are wrong.
			_ = r.(refusal)
		}
	}()
	in := reader{entries: map[string]api.Msg{}}
	read(b, actions{setFile: in.file})
	slices.SortFunc(in.set.Msgs, func(a, b api.Msg) int { return strings.Compare(a.Name, b.Name) })
	slices.SortFunc(in.set.Enums, func(a, b api.Enum) int { return strings.Compare(a.Name, b.Name) })
	slices.SortFunc(in.set.Svcs, func(a, b api.Svc) int { return strings.Compare(a.Name, b.Name) })
	return in.set, true
}

// read reads records, all of which there must be actions for.
func read(b []byte, by actions) {
	l, e := wire.Split(b)
	need(e == api.OK)
	for _, r := range l {
		act, isKnown := by[r.Num]
		need(isKnown)
		act(r)
	}
}

func need(isTrue bool) {
	if !isTrue {
		panic(refusal{})
	}
}

// number is the action that keeps the number of a record.
func number(to *int) func(api.Rec) {
	return func(r api.Rec) { *to = int(r.N) }
}

// text is the action that keeps the string of a record.
func text(to *string) func(api.Rec) {
	return func(r api.Rec) { *to = textOf(r) }
}

// texts is the action that keeps the strings of all records with its number.
func texts(to *[]string) func(api.Rec) {
	return func(r api.Rec) { *to = append(*to, textOf(r)) }
}

// reference is the action that keeps a full name.
func reference(to *string) func(api.Rec) {
	return func(r api.Rec) { *to = strings.TrimPrefix(textOf(r), ".") }
}

func textOf(r api.Rec) string {
	need(len(r.B) <= mostText)
	return string(r.B)
}
