package descpb

import (
	"signetry/api"
	"signetry/wire"
)

// writer writes the records of parts of a set.
type writer struct {
	set    api.Set
	out    []byte
	isFull bool
}

// parts writes a record for each element of a list: what write writes of it.
func parts[T any](w *writer, num int, l []T, write func(T)) {
	before := w.out
	for _, x := range l {
		w.out = nil
		write(x)
		part := w.out
		w.out = before
		w.record(num, asBytes, 0, part)
		before = w.out
	}
}

func (w *writer) number(num, n int) {
	w.record(num, asNumber, uint64(n), nil)
}

func (w *writer) text(num int, s string) {
	w.record(num, asBytes, 0, []byte(s))
}

// reference writes a full name.
func (w *writer) reference(num int, full string) {
	w.text(num, "."+full)
}

// record writes a record. There is none for a part that is too long, and then the
// bytes of the whole set are too long as well.
func (w *writer) record(num, kind int, n uint64, b []byte) {
	r, e := wire.Make(num, kind, n, b)
	w.isFull = w.isFull || e != api.OK
	w.out = append(w.out, r.Raw...)
}
