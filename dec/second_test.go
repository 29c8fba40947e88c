package dec_test

import (
	"fmt"
	"math/big"
	"slices"
	"strings"
	"unicode/utf8"

	"signetry/api"
)

// forms is how the values of each type are written.
var forms = map[int]string{
	api.TInt32: "plus", api.TInt64: "plus", api.TUint32: "plus", api.TUint64: "plus", api.TBool: "plus", api.TEnum: "plus",
	api.TSint32: "zigzag", api.TSint64: "zigzag",
	api.TFixed32: "four", api.TSfixed32: "four", api.TFloat: "four",
	api.TFixed64: "eight", api.TSfixed64: "eight", api.TDouble: "eight",
	api.TString: "text", api.TBytes: "text", api.TMsg: "message",
}

// wires is the wire type of each form.
var wires = map[string]int{"plus": 0, "zigzag": 0, "four": 5, "eight": 1, "text": 2, "message": 2}

// widths is how many bits the numbers of a type have; those below 0 are for types
// with negative numbers.
var widths = map[int]int{
	api.TBool: 1, api.TUint32: 32, api.TFixed32: 32, api.TUint64: 64, api.TFixed64: 64, api.TFloat: 32, api.TDouble: 64,
	api.TInt32: -32, api.TEnum: -32, api.TSfixed32: -32, api.TInt64: -64, api.TSfixed64: -64, api.TSint32: 32, api.TSint64: 64,
}

// piece is a record: its number, its wire type, and what it has.
type piece struct {
	num, wire int
	n         *big.Int
	b, raw    string
}

// wrong is what the second way throws.
type wrong struct{ e api.Errno }

// second is the second way to decode: as the chapter says it, with bytes that are read
// again as often as there are more of them, and with numbers without bounds.
type second struct{ s api.Set }

// secondMess is what bytes are decoded as: a value as a text, with unknown records.
func secondMess(s api.Set, name, b string) (v api.Val, unknown []string, e api.Errno) {
	defer func() {
		if r := recover(); r != nil {
			v, unknown, e = api.Val{}, nil, r.(wrong).e
		}
	}()
	v, unknown = second{s}.message(name, second{s}.fields(name), b, 1)
	if many, deep := measure(v); many > 4000 || deep > 30 {
		panic(wrong{api.ErrLimit})
	}
	return v, unknown, api.OK
}

// measure is how many values there are in one, and how deep it is.
func measure(v api.Val) (many, deep int) {
	many = 1
	for _, x := range v.F {
		for _, inner := range x.L {
			m, d := measure(inner)
			many, deep = many+m, max(deep, d)
		}
	}
	return many, deep + 1
}

// fields is the fields of a message.
func (d second) fields(name string) []api.Field {
	at := slices.IndexFunc(d.s.Msgs, func(m api.Msg) bool { return m.Name == name })
	if at < 0 {
		panic(fmt.Sprint("no message ", name))
	}
	return d.s.Msgs[at].Fields
}

// message decodes bytes as a message with fields.
func (d second) message(name string, fields []api.Field, b string, deep int) (v api.Val, unknown []string) {
	if len(b) > 1048576 || deep > 30 {
		panic(wrong{api.ErrLimit})
	}
	lists := map[int][]api.Val{}
	before := map[int]string{}
	for _, p := range cut(b) {
		at := slices.IndexFunc(fields, func(f api.Field) bool { return f.Num == p.num })
		if at < 0 || !suits(fields[at], p) {
			unknown = append(unknown, p.raw)
			continue
		}
		f := fields[at]
		for _, other := range fields {
			if f.Oneof >= 0 && other.Oneof == f.Oneof && other.Num != f.Num {
				delete(lists, other.Num)
				delete(before, other.Num)
			}
		}
		l := lists[f.Num]
		switch {
		case f.Card == api.Map:
			l = insert(l, d.entry(f, p.b, deep+1))
		case f.Card == api.Rep:
			l = append(l, d.all(f, p, deep)...)
		case f.Type == api.TMsg:
			before[f.Num] += p.b
			v, _ := d.message(f.Ref, d.fields(f.Ref), before[f.Num], deep+1)
			l = []api.Val{v}
		default:
			l = d.all(f, p, deep)
			if f.Card == api.One && isZero(l[0]) {
				l = nil
			}
		}
		lists[f.Num] = l
	}
	v = msg(name)
	for _, f := range fields {
		if len(lists[f.Num]) > 0 {
			v.F = append(v.F, slot(f.Num, lists[f.Num]...))
		}
	}
	return v, unknown
}

// suits tells whether a record is one of a field that has its number.
func suits(f api.Field, p piece) bool {
	form := forms[f.Type]
	if f.Card == api.Map {
		return p.wire == 2
	}
	return p.wire == wires[form] || p.wire == 2 && f.Card == api.Rep
}

// entry decodes the entry of a map.
func (d second) entry(f api.Field, b string, deep int) api.Val {
	k := api.Field{Num: 1, Type: f.Key, Card: api.Opt, Oneof: -1}
	v := api.Field{Num: 2, Type: f.Type, Ref: f.Ref, Card: api.Opt, Oneof: -1}
	e, _ := d.message("", []api.Field{k, v}, b, deep)
	pair := map[int]api.Val{1: none(k), 2: none(v)}
	for _, x := range e.F {
		pair[x.Num] = x.L[0]
	}
	return entry(pair[1], pair[2])
}

// none is the zero value of a field.
func none(f api.Field) api.Val {
	switch {
	case f.Type == api.TFloat:
		return f32(0)
	case f.Type == api.TDouble:
		return f64(0)
	case f.Type == api.TMsg:
		return msg(f.Ref)
	case forms[f.Type] == "text":
		return str("")
	}
	return num(0)
}

// insert puts an entry in its place.
func insert(l []api.Val, e api.Val) []api.Val {
	key := e.F[0].L[0]
	at := 0
	for at < len(l) && isAhead(l[at].F[0].L[0], key) {
		at++
	}
	if at < len(l) && told(l[at].F[0].L[0]) == told(key) {
		return slices.Replace(l, at, at+1, e)
	}
	return slices.Insert(l, at, e)
}

// isAhead tells whether a key comes ahead of another one.
func isAhead(a, b api.Val) bool {
	if a.Kind == api.KBytes {
		return string(a.B) < string(b.B)
	}
	return bigOf(a).Cmp(bigOf(b)) < 0
}

// bigOf is the number of a value.
func bigOf(v api.Val) *big.Int {
	n := new(big.Int).SetUint64(v.Mag)
	if v.Neg {
		n.Neg(n)
	}
	return n
}

// all is the values that a record has.
func (d second) all(f api.Field, p piece, deep int) []api.Val {
	form := forms[f.Type]
	if p.wire == wires[form] {
		return []api.Val{d.value(f, form, p, deep)}
	}
	var l []api.Val
	for _, n := range packed(form, p.b) {
		l = append(l, d.value(f, form, piece{n: n}, deep))
	}
	return l
}

// packed is the numbers of a packed list: it has no end inside of a number, or else
// nothing else that is wrong with it matters.
func packed(form, b string) (l []*big.Int) {
	size := map[string]int{"four": 4, "eight": 8}[form]
	if size > 0 {
		if len(b)%size != 0 {
			panic(wrong{api.ErrTrunc})
		}
		for ; len(b) > 0; b = b[size:] {
			l = append(l, little(b[:size]))
		}
		return l
	}
	if b != "" && b[len(b)-1] >= 0x80 {
		panic(wrong{api.ErrTrunc})
	}
	for len(b) > 0 {
		var n *big.Int
		n, b = varint(b)
		l = append(l, n)
	}
	return l
}

// value is one value.
func (d second) value(f api.Field, form string, p piece, deep int) api.Val {
	switch form {
	case "message":
		v, _ := d.message(f.Ref, d.fields(f.Ref), p.b, deep+1)
		return v
	case "text":
		if f.Type == api.TString && !utf8.ValidString(p.b) {
			panic(wrong{api.ErrUtf})
		}
		return str(p.b)
	}
	width := widths[f.Type]
	isSigned := width < 0
	if isSigned {
		width = -width
	}
	n := new(big.Int).Mod(p.n, new(big.Int).Lsh(big.NewInt(1), uint(width)))
	if isSigned && n.Bit(width-1) == 1 {
		n.Sub(n, new(big.Int).Lsh(big.NewInt(1), uint(width)))
	}
	if form == "zigzag" {
		// 2 n, or -2 n - 1.
		if n.Bit(0) == 1 {
			n.Add(n, big.NewInt(1)).Neg(n)
		}
		n.Quo(n, big.NewInt(2))
	}
	switch f.Type {
	case api.TFloat:
		return f32(n.Uint64())
	case api.TDouble:
		return f64(n.Uint64())
	}
	return whole(n.String())
}

// cut is all records of bytes.
func cut(b string) (l []piece) {
	for len(b) > 0 {
		from := b
		var p piece
		tag, rest := varint(b)
		b = rest
		num := new(big.Int).Rsh(tag, 3)
		if num.Sign() == 0 || num.Cmp(big.NewInt(1<<29-1)) > 0 {
			panic(wrong{api.ErrForm})
		}
		p.num, p.wire = int(num.Int64()), int(tag.Uint64()&7)
		size := map[int]int{1: 8, 5: 4}[p.wire]
		switch p.wire {
		case 0:
			p.n, b = varint(b)
		case 1, 5:
			if len(b) < size {
				panic(wrong{api.ErrTrunc})
			}
			p.n, b = little(b[:size]), b[size:]
		case 2:
			var n *big.Int
			n, b = varint(b)
			switch {
			case n.Cmp(big.NewInt(1048576)) > 0:
				panic(wrong{api.ErrLimit})
			case n.Cmp(big.NewInt(int64(len(b)))) > 0:
				panic(wrong{api.ErrTrunc})
			}
			p.b, b = b[:n.Int64()], b[n.Int64():]
		default:
			panic(wrong{api.ErrWire})
		}
		p.raw = from[:len(from)-len(b)]
		l = append(l, p)
	}
	return l
}

// varint is a number in groups of seven binary digits, and what is behind it.
func varint(b string) (*big.Int, string) {
	var digits []string
	for i := range len(b) {
		if i == 9 && b[i] > 1 {
			panic(wrong{api.ErrForm})
		}
		digits = append(digits, fmt.Sprintf("%07b", b[i]&127))
		if b[i] < 128 {
			slices.Reverse(digits)
			n, _ := new(big.Int).SetString(strings.Join(digits, ""), 2)
			return n, b[i+1:]
		}
	}
	panic(wrong{api.ErrTrunc})
}

// little is the number that bytes are, the last ones first.
func little(b string) *big.Int {
	l := []byte(b)
	slices.Reverse(l)
	return new(big.Int).SetBytes(l)
}
