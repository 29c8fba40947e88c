package wire

import (
	"signetry/api"
)

// reader goes through bytes record by record. What it gives out shares their
// memory, so that a record can be checked without a copy of it.
type reader struct {
	all []byte
	at  int
}

// body reads what follows the number and the wire type of a record.
type body func() (n uint64, b []byte, e api.Errno)

// bodies are the ways to read a body, by wire type: nil where there is none.
func (r *reader) bodies() [8]body {
	return [8]body{
		asVarint: r.varint,
		asEight:  r.eight,
		asBytes:  r.counted,
		asFour:   r.four,
	}
}

// record reads the next record. An error in its first varint comes before
// all that follows that varint, even if the bytes end there.
func (r *reader) record() (api.Rec, api.Errno) {
	from := r.at
	tag, _, e := r.varint()
	if e != api.OK {
		return api.Rec{}, e
	}
	num, wire := tag>>3, int(tag&7)
	if num == 0 || num > api.MaxNum {
		return api.Rec{}, api.ErrForm
	}
	read := r.bodies()[wire]
	if read == nil {
		return api.Rec{}, api.ErrWire
	}
	n, b, e := read()
	if e != api.OK {
		return api.Rec{}, e
	}
	return api.Rec{Num: int(num), Wire: wire, N: n, B: b, Raw: r.since(from)}, api.OK
}

// varint reads a number that may have more bytes than necessary.
func (r *reader) varint() (n uint64, b []byte, e api.Errno) {
	for shift := 0; ; shift += 7 {
		if r.at == len(r.all) {
			return 0, nil, api.ErrTrunc
		}
		c := r.all[r.at]
		r.at++
		// The 10th byte holds the 64th bit alone; one that announces an 11th
		// byte is greater than 1 too, and so this is where the loop ends.
		if shift == 63 && c > 1 {
			return 0, nil, api.ErrForm
		}
		n |= uint64(c&0x7f) << shift
		if c < 0x80 {
			return n, nil, api.OK
		}
	}
}

func (r *reader) eight() (n uint64, b []byte, e api.Errno) {
	return r.fixed(8)
}

func (r *reader) four() (n uint64, b []byte, e api.Errno) {
	return r.fixed(4)
}

// fixed reads a number in that many bytes, lowest first.
func (r *reader) fixed(size int) (n uint64, b []byte, e api.Errno) {
	part, e := r.take(size)
	if e != api.OK {
		return 0, nil, e
	}
	for i, c := range part {
		n |= uint64(c) << (8 * i)
	}
	return n, nil, api.OK
}

// counted reads bytes that are preceded by their number. The number is held
// against the limit as it was read: it may be too great for an int.
func (r *reader) counted() (n uint64, b []byte, e api.Errno) {
	size, _, e := r.varint()
	if e != api.OK {
		return 0, nil, e
	}
	if size > api.MaxBytes {
		return 0, nil, api.ErrLimit
	}
	b, e = r.take(int(size))
	return 0, b, e
}

// take cuts off the next bytes.
func (r *reader) take(size int) ([]byte, api.Errno) {
	if size > len(r.all)-r.at {
		return nil, api.ErrTrunc
	}
	from := r.at
	r.at += size
	return r.since(from), api.OK
}

// since is what was read from there on, without capacity: what is appended
// to a piece must never run into the bytes behind it.
func (r *reader) since(from int) []byte {
	return r.all[from:r.at:r.at]
}
