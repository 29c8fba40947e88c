package enc

import (
	"signetry/api"
	"signetry/build"
	"signetry/kinds"
	"signetry/wire"
)

// asBytes is the wire type of records of bytes.
const asBytes = 2

// writer writes records, as long as there are no more bytes than there may be.
type writer struct {
	set    api.Set
	out    []byte
	isFull bool
}

// result is what was written.
func (w *writer) result() ([]byte, api.Errno) {
	if w.isFull {
		return nil, api.ErrLimit
	}
	return w.out, api.OK
}

// add appends pieces. What is too long is not copied: the parts of a value may share
// their bytes, so that together they say far more than was handed in.
func (w *writer) add(pieces ...[]byte) {
	for _, piece := range pieces {
		w.isFull = w.isFull || len(piece) > api.MaxBytes-len(w.out)
		if w.isFull {
			return
		}
		w.out = append(w.out, piece...)
	}
}

// part is what write writes, by itself.
func (w *writer) part(write func(inner *writer)) []byte {
	inner := &writer{set: w.set}
	write(inner)
	w.isFull = w.isFull || inner.isFull
	return inner.out
}

// slots writes the records of slots, whose numbers are those of fields of a message.
func (w *writer) slots(m api.Msg, l []api.Slot) {
	for _, x := range l {
		f, _ := build.Field(m, x.Num)
		w.records(f, x.L)
	}
}

// records writes the records of a field with a list.
func (w *writer) records(f api.Field, l []api.Val) {
	encode, kind := encodingOf(f)
	if isPacked(f) {
		all := w.part(func(inner *writer) {
			inner.each(l, func(v api.Val) { inner.add(encode(inner, f, v)) })
		})
		w.record(f.Num, asBytes, all)
		return
	}
	w.each(l, func(v api.Val) { w.record(f.Num, kind, encode(w, f, v)) })
}

// each calls with the values of a list, until there are too many bytes.
func (w *writer) each(l []api.Val, write func(v api.Val)) {
	for _, v := range l {
		if w.isFull {
			return
		}
		write(v)
	}
}

// record writes a record: its number and its wire type, how many bytes follow where
// that is not known from the wire type, and what it says.
func (w *writer) record(num, kind int, said []byte) {
	head := wire.Var(nil, uint64(num)<<3|uint64(kind))
	if kind == asBytes {
		head = wire.Var(head, uint64(len(said)))
	}
	w.add(head, said)
}

// isPacked tells whether all values of a field are in one record.
func isPacked(f api.Field) bool {
	return f.Card == api.Rep && kinds.Packs(f.Type)
}
