package enc

import (
	"signetry/api"
	"signetry/build"
	"signetry/kinds"
	"signetry/wire"
)

// encoding is what a record says of a value of a field: all of it but the number, the
// wire type, and how many bytes there are.
type encoding func(w *writer, f api.Field, v api.Val) []byte

// encodings is how values are encoded, by the class of their type; what is no type
// holds none, and has the class 0.
func encodings() [10]encoding {
	return [...]encoding{
		1: (*writer).varint,
		2: (*writer).zigzag,
		3: (*writer).four,
		4: (*writer).eight,
		5: (*writer).four,
		6: (*writer).eight,
		7: (*writer).bytes,
		8: (*writer).bytes,
		9: (*writer).message,
	}
}

// encodingOf is how single values of a field are encoded, and the wire type of that.
func encodingOf(f api.Field) (encoding, int) {
	if f.Card == api.Map {
		return (*writer).entry, asBytes
	}
	return encodings()[kinds.Class(f.Type)], kinds.Wire(f.Type)
}

func (*writer) varint(_ api.Field, v api.Val) []byte {
	return wire.Var(nil, bitsOf(v))
}

func (*writer) zigzag(_ api.Field, v api.Val) []byte {
	return wire.Var(nil, wire.Zig(int64(bitsOf(v))))
}

func (*writer) four(_ api.Field, v api.Val) []byte {
	return lowest(4, bitsOf(v))
}

func (*writer) eight(_ api.Field, v api.Val) []byte {
	return lowest(8, bitsOf(v))
}

func (*writer) bytes(_ api.Field, v api.Val) []byte {
	return v.B
}

func (w *writer) message(f api.Field, v api.Val) []byte {
	m, _ := build.Msg(w.set, f.Ref)
	return w.part(func(inner *writer) { inner.slots(m, v.F) })
}

// entry encodes the entry of a map like a message with the key and the value.
func (w *writer) entry(f api.Field, v api.Val) []byte {
	m := api.Msg{Fields: []api.Field{
		{Num: 1, Type: f.Key, Card: api.Opt},
		{Num: 2, Type: f.Type, Ref: f.Ref, Card: api.Opt},
	}}
	return w.part(func(inner *writer) { inner.slots(m, v.F) })
}

// bitsOf is an integer as 64 bits, a negative one as 2^64 plus the number; or the bits
// of a floating-point number.
func bitsOf(v api.Val) uint64 {
	if v.Neg {
		return -v.Mag
	}
	return v.Mag
}

// lowest is the lowest bytes of n, as many as size, lowest first.
func lowest(size int, n uint64) []byte {
	b := make([]byte, size)
	for i := range b {
		b[i] = byte(n >> (8 * i))
	}
	return b
}
