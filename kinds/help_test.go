package kinds_test

import (
	"math"
	"math/big"
	"strings"

	"signetry/api"
)

// written is the table of the chapter, once more: a type, its name, its class, its
// wire type, its domain, and the integers that it holds.
const written = `
 5 int32    1 0 1 -2147483648 2147483647
 3 int64    1 0 1 -9223372036854775808 9223372036854775807
13 uint32   1 0 1 0 4294967295
 4 uint64   1 0 1 0 18446744073709551615
 8 bool     1 0 1 0 1
14 -        1 0 1 -2147483648 2147483647
17 sint32   2 0 1 -2147483648 2147483647
18 sint64   2 0 1 -9223372036854775808 9223372036854775807
 7 fixed32  3 5 1 0 4294967295
15 sfixed32 3 5 1 -2147483648 2147483647
 6 fixed64  4 1 1 0 18446744073709551615
16 sfixed64 4 1 1 -9223372036854775808 9223372036854775807
 2 float    5 5 2 - -
 1 double   6 1 3 - -
 9 string   7 2 4 - -
12 bytes    8 2 4 - -
11 -        9 2 5 - -
`

// row is a line of it. Types that hold no integers have no least one.
type row struct {
	number, class, wire, domain int
	name                        string
	least, greatest             *big.Int
}

func writtenRows() (l []row) {
	for _, line := range strings.Split(strings.TrimSpace(written), "\n") {
		p := strings.Fields(line)
		r := row{number: digits(p[0]), class: digits(p[2]), wire: digits(p[3]), domain: digits(p[4])}
		if p[1] != "-" {
			r.name = p[1]
		}
		if p[5] != "-" {
			r.least, r.greatest = integer(p[5]), integer(p[6])
		}
		l = append(l, r)
	}
	return l
}

// rowOf is the line of a type, and whether there is one.
func rowOf(t int) (row, bool) {
	for _, r := range writtenRows() {
		if r.number == t {
			return r, true
		}
	}
	return row{}, false
}

func integer(s string) *big.Int {
	n, isNumber := new(big.Int).SetString(s, 10)
	if !isNumber {
		panic(s)
	}
	return n
}

func digits(s string) int {
	return int(integer(s).Int64())
}

// types is all types.
func types() (l []int) {
	for _, r := range writtenRows() {
		l = append(l, r.number)
	}
	return l
}

// none is numbers that are no types.
func none() []int {
	l := []int{0, 10, -1, -5, -10, 19, 20, 21, 255, 256, 261, 1<<32 + 5, 1<<63 - 1, -1 << 63, -1<<63 + 5, 1 << 62, math.MinInt32}
	for i := 19; i < 1000; i++ {
		l = append(l, i, -i)
	}
	return l
}

// field is a field of a type, with a card; if that is a map, with int32 as its
// key.
func field(t, card int) api.Field {
	f := api.Field{Type: t, Card: card}
	if card == api.Map {
		f.Key = api.TInt32
	}
	return f
}

// mapped is a map.
func mapped(key, t int) api.Field {
	return api.Field{Type: t, Card: api.Map, Key: key}
}
