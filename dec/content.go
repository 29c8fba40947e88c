package dec

import (
	"math"
	"slices"

	"signetry/api"
	"signetry/kinds"
	"signetry/text"
	"signetry/wire"
)

// single is the one value that a record has.
func (m *message) single(f api.Field, r api.Rec) api.Val {
	v := zero(f)
	switch v.Kind {
	case api.KMsg:
		m.nested(&v, r.B)
	case api.KBytes:
		if f.Type == api.TString && !text.Valid(r.B) {
			need(api.ErrUtf)
		}
		v.B = r.B
	default:
		v.Neg, v.Mag = number(f.Type, r.N)
	}
	return v
}

// zero is the zero value of the type of a field; of a message one without slots.
func zero(f api.Field) api.Val {
	v := api.Val{Kind: kinds.Domain(f.Type)}
	if f.Type == api.TMsg {
		v.Name = f.Ref
	}
	return v
}

// number is the number of a type that a record's number stands for. The bits beyond
// those of the type do not count.
func number(t int, n uint64) (neg bool, mag uint64) {
	switch t {
	case api.TInt64, api.TSfixed64:
		return signed(int64(n))
	case api.TInt32, api.TEnum, api.TSfixed32:
		return signed(int64(int32(n)))
	case api.TSint64:
		return signed(wire.Zag(n))
	case api.TSint32:
		return signed(wire.Zag(n & math.MaxUint32))
	case api.TUint32:
		return false, n & math.MaxUint32
	case api.TBool:
		return false, n & 1
	}
	return false, n
}

func signed(n int64) (neg bool, mag uint64) {
	if n < 0 {
		return true, -uint64(n)
	}
	return false, uint64(n)
}

// packed is the values of a type that are encoded one after the other.
func packed(t int, b []byte) []api.Val {
	kind := kinds.Wire(t)
	var l []api.Val
	for _, piece := range pieces(kind, b) {
		// Which number it is what a record without its number says, so that one is put
		// ahead.
		r, _, e := wire.Next(slices.Concat([]byte{byte(1<<3 | kind)}, piece))
		need(e)
		neg, mag := number(t, r.N)
		l = append(l, api.Val{Kind: kinds.Domain(t), Neg: neg, Mag: mag})
	}
	return l
}

// pieces cuts bytes into numbers that are written like those of records of a wire
// type. That the last one is not whole is an error ahead of all in the others.
func pieces(kind int, b []byte) [][]byte {
	var l [][]byte
	for len(b) > 0 {
		size := sizeOf(kind, b)
		if size > len(b) {
			need(api.ErrTrunc)
		}
		l = append(l, b[:size])
		b = b[size:]
	}
	return l
}

// sizeOf is how many bytes the first number has, more than there are if it is cut off.
func sizeOf(kind int, b []byte) int {
	switch kind {
	case 1:
		return 8
	case 5:
		return 4
	}
	last := slices.IndexFunc(b, func(c byte) bool { return c < 0x80 })
	if last < 0 {
		return len(b) + 1
	}
	return last + 1
}
