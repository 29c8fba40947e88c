package enc_test

import (
	"fmt"
	"math/big"
	"strings"

	"signetry/api"
)

// forms is how the values of each type are written: as one of the words of said.
var forms = map[int]string{
	api.TInt32: "plus", api.TInt64: "plus", api.TUint32: "plus", api.TUint64: "plus", api.TBool: "plus", api.TEnum: "plus",
	api.TSint32: "zigzag", api.TSint64: "zigzag",
	api.TFixed32: "four", api.TSfixed32: "four", api.TFloat: "four",
	api.TFixed64: "eight", api.TSfixed64: "eight", api.TDouble: "eight",
	api.TString: "text", api.TBytes: "text", api.TMsg: "message",
}

// wires is the wire type of each form.
var wires = map[string]int{"plus": 0, "zigzag": 0, "four": 5, "eight": 1, "text": 2, "message": 2, "entry": 2}

// second is the second way to encode: by numbers without bounds and their digits.
type second struct{ s api.Set }

// secondBytes is the bytes of a value of a message, in an order of its numbers.
func secondBytes(s api.Set, name string, v api.Val, order []int) string {
	byNumber := map[int]string{}
	var rising []int
	for _, x := range v.F {
		byNumber[x.Num] = second{s}.list(second{s}.field(name, x.Num), x.L)
		rising = append(rising, x.Num)
	}
	if len(order) == 0 {
		order = rising
	}
	var b strings.Builder
	for _, n := range order {
		b.WriteString(byNumber[n])
	}
	return b.String()
}

// secondRecords is the records of a field with a list.
func secondRecords(s api.Set, f api.Field, l []api.Val) string {
	return second{s}.list(f, l)
}

// field is the field of a message with a number.
func (w second) field(name string, n int) api.Field {
	for _, m := range w.s.Msgs {
		for _, f := range m.Fields {
			if m.Name == name && f.Num == n {
				return f
			}
		}
	}
	panic(fmt.Sprint(name, n))
}

// list is the records of a list.
func (w second) list(f api.Field, l []api.Val) string {
	form := forms[f.Type]
	if f.Card == 3 && form != "text" && form != "message" {
		var all strings.Builder
		for _, v := range l {
			all.WriteString(w.said(form, f, v))
		}
		return record(f.Num, 2, all.String())
	}
	if f.Card == 4 {
		form = "entry"
	}
	var all strings.Builder
	for _, v := range l {
		all.WriteString(record(f.Num, wires[form], w.said(form, f, v)))
	}
	return all.String()
}

// said is what a record says of one value.
func (w second) said(form string, f api.Field, v api.Val) string {
	n := number(v)
	switch form {
	case "plus":
		return groups(modulo(n, 64))
	case "zigzag":
		n.Mul(n, big.NewInt(2))
		if n.Sign() < 0 {
			n.Neg(n).Sub(n, big.NewInt(1))
		}
		return groups(n)
	case "four":
		return reversed(modulo(n, 32), 4)
	case "eight":
		return reversed(modulo(n, 64), 8)
	case "text":
		return string(v.B)
	case "message":
		return secondBytes(w.s, f.Ref, v, nil)
	case "entry":
		key, value := api.Field{Num: 1, Type: f.Key}, api.Field{Num: 2, Type: f.Type, Ref: f.Ref}
		return w.list(key, v.F[0].L) + w.list(value, v.F[1].L)
	}
	panic(form)
}

// record is a number, a wire type, the count of bytes if there is one, and the rest.
func record(n, wireType int, rest string) string {
	s := groups(big.NewInt(int64(8*n + wireType)))
	if wireType == 2 {
		s += groups(big.NewInt(int64(len(rest))))
	}
	return s + rest
}

// number is the number of a value, or its bits.
func number(v api.Val) *big.Int {
	n := new(big.Int).SetUint64(v.Mag)
	if v.Neg {
		n.Neg(n)
	}
	return n
}

// modulo adds as much to a negative number as it takes.
func modulo(n *big.Int, bits uint) *big.Int {
	if n.Sign() < 0 {
		n.Add(n, new(big.Int).Lsh(big.NewInt(1), bits))
	}
	return n
}

// groups is a number in groups of seven binary digits, the last ones first.
func groups(n *big.Int) string {
	digits := n.Text(2)
	digits = strings.Repeat("0", (7-len(digits)%7)%7) + digits
	var b []byte
	for len(digits) > 0 {
		cut := len(digits) - 7
		more := "1"
		if cut == 0 {
			more = "0"
		}
		c, _ := new(big.Int).SetString(more+digits[cut:], 2)
		b = append(b, byte(c.Uint64()))
		digits = digits[:cut]
	}
	return string(b)
}

// reversed is the bytes of a number, the last ones first.
func reversed(n *big.Int, count int) string {
	b := n.FillBytes(make([]byte, count))
	var s []byte
	for i := range b {
		s = append(s, b[count-1-i])
	}
	return string(s)
}
