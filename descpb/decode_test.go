package descpb_test

import (
	"bytes"
	"fmt"
	"slices"
	"strings"
	"testing"

	"signetry/api"
	"signetry/descpb"
)

// everything is a set with something of everything, as its records.
const everything = `
	1{1"a" 2"p" 3"b" 3"c"
		4{1"M"
			2{1"a" 3:1 4:1 5:5 10"a"}
			2{1"b" 3:2 4:1 5:9 10"b" 17:1}
			2{1"c" 3:3 4:3 5:11 6".q.C" 10"c"}
			2{1"d" 3:4 4:1 5:14 6".p.M.E" 9:0 10"d"}
			2{1"e" 3:5 4:1 5:11 6".p.M.N" 9:0 10"e"}
			2{1"f" 3:6 4:3 5:11 6".p.M.6Entry" 10"f"}
			2{1"g_h" 3:7 4:3 5:11 6".p.M.7Entry" 10"gH"}
			2{1"i" 3:8 4:1 5:11 6".p.M" 10"i"}
			3{1"N" 3{1"O"} 4{1"E" 2{1"Z" 2:0}}}
			3{1"6Entry" 2{1"key" 3:1 4:1 5:9} 2{1"value" 3:2 4:1 5:11 6".p.M.N"} 7{7:1}}
			3{1"7Entry" 2{1"key" 3:1 4:1 5:5} 2{1"value" 3:2 4:1 5:8} 7{7:1}}
			4{1"E" 2{1"Z" 2:0} 2{1"A" 2:-1} 4{1:-5 2:-2} 4{1:7 2:7} 5"X" 5"Y"}
			8{1"o"}
			9{1:10 2:12} 9{1:20 2:21} 10"x" 10"y"}
		4{1"N"}
		5{1"E" 2{1"Z" 2:0}}
		6{1"S" 2{1"F" 2".p.M" 3".q.C"} 2{1"A" 2".p.N" 3".p.M.N.O"}}
		6{1"T"}
		10:1 12"proto3"}
	1{1"b" 12"proto3"}
	1{1"c" 2"q" 4{1"C"} 12"proto3"}`

// P10.4: the bytes are those of a set, and of no other one.
func TestEverything(t *testing.T) {
	s, e := descpb.Decode(written(everything))
	if e != api.OK || len(s.Msgs) != 5 || len(s.Enums) != 3 || len(s.Svcs) != 2 {
		t.Fatal(e, s)
	}
	is(t, s, written(everything))
	is(t, built(t,
		`c:package q;message C{}`,
		`b:`,
		`a:package p;import"b";import public"c";service T{}enum E{Z=0;}message N{}service S{rpc F(M)returns(q.C);rpc A(N)returns(M.N.O);}
		message M{reserved"y","x";reserved 20,10 to 11;message N{enum E{Z=0;}message O{}}enum E{Z=0;A=-1;reserved 7,-5 to -2;reserved"Y","X";}
		M i=8;map<int32,bool>g_h=7;map<string,N>f=6;oneof o{N e=5;E d=4;}repeated q.C c=3;optional string b=2;int32 a=1;}`), written(everything))
}

// P10.5: bytes that are cut off are no encoding, or that of the files that remain.
func TestCutBytes(t *testing.T) {
	b := written(everything)
	for n := range b {
		decodesAs(t, fmt.Sprint(n, " bytes"), b[:n])
		decodesAs(t, fmt.Sprint("behind ", n, " bytes"), b[n:])
		if s, e := descpb.Decode(b[:n]); n > 0 && (e != api.ErrForm || len(s.Files) > 0) {
			t.Errorf("%d bytes: %d and %v", n, e, s)
		}
	}
	small := written(`1{1"a" 2"p" 12"proto3"}1{1"b" 4{1"M"} 12"proto3"}`)
	for n := range small {
		want := map[int]bool{0: true, 16: true}[n]
		if _, e := descpb.Decode(small[:n]); e == api.OK != want {
			t.Errorf("%d bytes: %d", n, e)
		}
	}
}

// P10.5: records that are left out, doubled, or put in another place, at all depths,
// make no encoding, or that of another set.
func TestMovedRecords(t *testing.T) {
	b := written(everything)
	counts := map[string]int{}
	try := func(what string, l *[]*record) {
		t.Helper()
		now := bytesOf(*l)
		isSet := decodesAs(t, what, now)
		if bytes.Equal(now, b) {
			return
		}
		counts[what]++
		if s, _ := descpb.Decode(now); isSet && deepEqual(s, mustDecode(t, b)) {
			t.Errorf("%s: %x is the same set", what, now)
		}
		if what == "doubled" && isSet {
			t.Errorf("%x is a set", now)
		}
	}
	count := 0
	whole := records(everything)
	eachList(&whole, func(*[]*record) { count++ })
	for at := range count {
		list := func() (all, found *[]*record) {
			l, left := records(everything), at
			eachList(&l, func(some *[]*record) {
				if left == 0 {
					found = some
				}
				left--
			})
			return &l, found
		}
		_, found := list()
		for i := range *found {
			l, found := list()
			*found = slices.Delete(*found, i, i+1)
			try("left out", l)
			for j := range len(*found) + 2 {
				l, found = list()
				*found = slices.Insert(*found, j, (*found)[i])
				try("doubled", l)
			}
			for j := range *found {
				l, found = list()
				(*found)[i], (*found)[j%len(*found)] = (*found)[j%len(*found)], (*found)[i]
				try("exchanged", l)
			}
		}
	}
	if counts["left out"] < 100 || counts["doubled"] < 500 || counts["exchanged"] < 200 {
		t.Error(counts)
	}
}

func mustDecode(t *testing.T, b []byte) api.Set {
	t.Helper()
	s, e := descpb.Decode(b)
	if e != api.OK {
		t.Fatalf("%d of %x", e, b)
	}
	return s
}

// P10.2: records of another wire type, of a number that is none, and with more bytes
// than needed, at each place.
func TestOddRecords(t *testing.T) {
	each := func(l []*record) (all []*record) {
		eachList(&l, func(some *[]*record) { all = append(all, *some...) })
		return all
	}
	for i := range each(records(everything)) {
		for kind := range 8 {
			l := records(everything)
			if x := each(l)[i]; x.kind != kind {
				x.kind = kind
				refuses(t, fmt.Sprintf("record %d, type %d", i, kind), bytesOf(l))
			}
		}
		for _, num := range []int{0, 13, 18, 1000, 1<<29 - 1, 1 << 29} {
			l := records(everything)
			each(l)[i].num = num
			refuses(t, fmt.Sprintf("record %d, number %d", i, num), bytesOf(l))
		}
		for num := 1; num < 18; num++ {
			l := records(everything)
			each(l)[i].num = num
			decodesAs(t, fmt.Sprintf("record %d, number %d", i, num), bytesOf(l))
		}
		for more := 1; more <= 10; more++ {
			l := records(everything)
			each(l)[i].longTag = more
			refuses(t, fmt.Sprintf("record %d, %d more bytes in its tag", i, more), bytesOf(l))
			l = records(everything)
			each(l)[i].longer = more
			refuses(t, fmt.Sprintf("record %d, %d more bytes", i, more), bytesOf(l))
		}
	}
}

// P10.2: each other value of each byte of some bytes.
func TestEachOtherByte(t *testing.T) {
	t.Parallel()
	for _, text := range []string{
		`1{1"a" 2"p" 12"proto3"}`,
		`1{1"a" 4{1"M" 2{1"a" 3:1 4:3 5:11 6".M.1Entry" 10"a"} 3{1"1Entry" 2{1"key" 3:1 4:1 5:9} 2{1"value" 3:2 4:1 5:8} 7{7:1}}} 12"proto3"}`,
		`1{1"a" 4{1"M" 2{1"a" 3:1 4:1 5:5 10"a" 17:1} 2{1"b" 3:2 4:1 5:5 9:0 10"b"} 8{1"o"} 9{1:3 2:4}} 5{1"E" 2{1"Z" 2:0} 4{1:3 2:3} 5"x"} 12"proto3"}`,
	} {
		b := written(text)
		for i := range b {
			for c := range 256 {
				other := slices.Clone(b)
				other[i] = byte(c)
				decodesAs(t, fmt.Sprintf("byte %d as %d", i, c), other)
			}
		}
	}
}

// P10.2: bytes that are wrong in one place. In each row what stands first in a good
// text is replaced by each of the others.
func TestWrongBytes(t *testing.T) {
	const bare = `1{1"a" 12"proto3"}`
	const nest = `1{1"a" 4{1"M" 3{1"N"}} 5{1"E" 2{1"Z" 2:0}} 12"proto3"}`
	const two = `1{1"a" 3"b" 3"c" 10:0 12"proto3"} 1{1"b" 12"proto3"} 1{1"c" 12"proto3"}`
	const field = `1{1"a" 4{1"M" 2{1"f" 3:3 4:1 5:11 6".M" 10"f"}} 5{1"E" 2{1"Z" 2:0}} 12"proto3"}`
	const plain = `1{1"a" 4{1"M" 2{1"f" 3:3 4:1 5:5 10"f"}} 12"proto3"}`
	const choice = `1{1"a" 4{1"M" 2{1"f" 3:3 4:1 5:5 9:0 10"f"} 8{1"o"}} 12"proto3"}`
	const dict = `1{1"a" 4{1"M" 2{1"f" 3:3 4:3 5:11 6".M.3Entry" 10"f"} 3{1"3Entry" 2{1"key" 3:1 4:1 5:9} 2{1"value" 3:2 4:1 5:11 6".M"} 7{7:1}}} 4{1"N"} 12"proto3"}`
	const kept = `1{1"a" 4{1"M" 9{1:5 2:8} 10"x"} 5{1"E" 2{1"Z" 2:0} 4{1:5 2:8} 5"y"} 12"proto3"}`
	const call = `1{1"a" 4{1"M"} 6{1"S" 2{1"F" 2".M" 3".M"}} 12"proto3"}`
	for _, row := range [][]string{
		{bare, `12"proto3"`, ``, `12"proto2"`, `12""`, `12"proto3" 12"proto3"`, `12"Proto3"`, `12"proto3 "`, `12:3`, `12{}`, `12"proto3" 13:1`, `12"editions"`},
		{bare, `1"a"`, ``, `1""`, `1" "`, `1"é"`, `1"a" 2""`, `1"a" 1"a"`, `1"a" 2"1"`, `1"a" 2".p"`, `1"a" 2"p."`, `1"a" 2"p" 2"p"`, `2"p" 1"a"`, `1"a" 7{}`, `1"a" 8{}`, `1"a" 9{}`, `1"a" 10:0`, `1"a" 11:0`, `1"a" 3"a"`, `1"a" 3"b"`, `1"a" 4{}`, `1"a" 4{1""}`, `1"a" 5{}`, `1"a" 6{}`, `1"` + strings.Repeat("a", 65) + `"`},
		{bare, `1{`, `2{`, `0{`, `1{1"a" 12"proto3"} 1{`, `1{} 1{`, `1:1 1{`, `1"" 1{`, `3"x" 1{`},
		{bare, `1{1"a" 12"proto3"}`, `1{}`, `1"a"`, `1:0`, `1{1"b" 12"proto3"} 1{1"a" 12"proto3"}`},
		{nest, `3{1"N"}`, `3{}`, `3{1""}`, `3{1"M.N"}`, `3{1".M.N"}`, `3{1"1N"}`, `3{1"N"} 3{1"N"}`, `3{1"N"} 3{1"M"}`, `4{1"N"}`, `5{1"N"}`, `3{1"N"} 4{1"N" 2{1"Z" 2:0}}`, `3{1"N" 7{7:1}}`, `3{1"N" 7{7:0}}`, `3{1"N" 7{}}`, `3{1"N" 1"N"}`, `3{10"x" 1"N"}`, `3{1"N" 10"x" 10"x"}`},
		{nest, `4{1"M"`, `4{`, `4{1"p.M"`, `4{1".M"`, `4{1"E"`, `4{1"N"} 4{1"M"`, `4{1"M"} 4{1"M"`, `5{1"M"`, `6{1"M"`},
		{nest, `5{1"E" 2{1"Z" 2:0}}`, `5{1"E"}`, `5{2{1"Z" 2:0}}`, `5{1"E" 2{1"Z"}}`, `5{1"E" 2{2:0}}`, `5{1"E" 2{2:0 1"Z"}}`, `5{1"E" 2{1"Z" 2:1}}`, `5{1"E" 2{1"Z" 2:0 2:0}}`, `5{1"E" 2{1"Z" 2:0} 2{1"Z" 2:1}}`, `5{1"E" 2{1"Z" 2:0} 2{1"A" 2:0}}`, `5{1"E" 2{1"Z" 2:0} 2{1"A" 2:2147483648}}`, `5{1"E" 2{1"Z" 2:0} 2{1"A" 2:-2147483649}}`, `5{1"E" 2{1"Z" 2:0} 2{1"A" 2:4294967295}}`, `5{1"E" 2{1"Z" 2:0} 3{}}`, `5{1"E" 2{1"Z" 2:0} 5"Z"}`, `5{1"E" 5"x" 2{1"Z" 2:0}}`, `5{1"E" 2{1"Z" 2:0}} 5{1"D" 2{1"Z" 2:0}}`, `5{1"F" 2{1"Z" 2:0}} 5{1"E" 2{1"Z" 2:0}}`},
		{two, `10:0`, `10:2`, `10:-1`, `10:4294967296`, `10:0 10:0`, `10:1 10:0`, `10"0"`, `10{}`},
		{two, `3"b" 3"c"`, `3"b" 3"b"`, `3"a" 3"c"`, `3"d" 3"c"`, `3"" 3"c"`, `10:0 3"b" 3"c"`, `3"b" 10:0 3"c"`},
		{two, `3"b" 3"c" 10:0`, `10:0`, `10:0 3"b"`, `3"b" 10:1`},
		{two, `1{1"b" 12"proto3"} 1{1"c" 12"proto3"}`, `1{1"c" 12"proto3"} 1{1"b" 12"proto3"}`, `1{1"b" 3"a" 12"proto3"} 1{1"c" 12"proto3"}`, `1{1"b" 12"proto3"}`, `1{1"c" 12"proto3"}`, ``},
		{field, `6".M"`, `6"M"`, `6"..M"`, `6"."`, `6""`, `6".M."`, `6".m"`, `6".E"`, `6".M.N"`, `6".M" 6".M"`, `6:1`, ``},
		{field, `5:11 6".M"`, `5:14 6".M"`, `5:5 6".M"`, `5:11`, `5:14`, `6".M" 5:11`, `5:10 6".M"`, `5:0`, `5:4294967301`, `5:-5`, `5:19`, `5:11 6".M.3Entry"`, `5:11 6".3Entry"`},
		{field, `10"f"`, ``, `10""`, `10"f-"`, `10"f" 17:1`, `10"f" 17:0`, `10"f" 10"f"`, `10:1`, `10"f" 9:0`, `9:-1 10"f"`},
		{field, `4:1`, ``, `4:0`, `4:2`, `4:4`, `4:-1`, `4:1 4:1`, `4"1"`, `4:4294967297`},
		{field, `3:3`, ``, `3:0`, `3:-3`, `3:19000`, `3:19999`, `3:536870912`, `3:4294967299`, `3:3 3:3`},
		{field, `1"f" 3:3`, `3:3 1"f"`, `1"" 3:3`, `1"1" 3:3`, `3:3`, `1"f" 2:0 3:3`, `1"f.g" 3:3`},
		{plain, `5:5`, `5:5 6""`, `5:5 6"."`, `5:5 6".M"`, `5:11`, `5:14`, ``},
		{plain, `10"f"`, `10"f" 17:0`, `10"f" 17:2`, `10"f" 17:-1`, `10"f" 17:1 17:1`, `17:1 10"f"`, `10"f" 17"1"`, `9:0 10"f"`, `9:-1 10"f"`, `10"f" 16:1`, `10"f" 7"x"`, `10"f" 8{}`},
		{plain, `2{1"f" 3:3 4:1 5:5 10"f"}`, `2{1"f" 3:3 4:1 5:5 10"f"} 2{1"f" 3:4 4:1 5:5 10"g"}`, `2{1"f" 3:3 4:1 5:5 10"f"} 2{1"g" 3:3 4:1 5:5 10"g"}`, `2{1"f" 3:3 4:1 5:5 10"f"} 2{1"g" 3:4 4:1 5:5 10"f"}`, `2{1"f" 3:3 4:1 5:5 10"f"} 2{1"g" 3:2 4:1 5:5 10"g"}`, `2{}`, `2:1`, `6{}`, `5{}`, `8{1"o"}`},
		{choice, `9:0`, `9:1`, `9:-1`, `9:-2`, `9:0 9:0`, `9:4294967296`, `9"o"`, ``},
		{choice, `10"f"`, `10"f" 17:1`, `10"f" 9:0`},
		{choice, `4:1`, `4:3`},
		{choice, `9:0 10"f"`, `10"f" 9:0`, `10"f"`, `10"f" 17:1`},
		{choice, `8{1"o"}`, ``, `8{}`, `8{1""}`, `8{1"1"}`, `8{1"o" 1"o"}`, `8{1"o" 2{}}`, `8"o"`, `8{1:1}`, `8{1"o"} 8{1"o"}`, `8{1"o"} 8{1"p"}`, `8:0`},
		{dict, `6".M.3Entry"`, `6"M.3Entry"`, `6".3Entry"`, `6"3Entry"`, `6".M.03Entry"`, `6".M.3entry"`, `6".M.FEntry"`, `6".N.3Entry"`, `6".M"`, `6".N"`, `6".M.4Entry"`, ``, `6".M.3Entry" 6".M.3Entry"`, `6"..M.3Entry"`},
		{dict, `4:3 5:11`, `4:1 5:11`, `4:3 5:14`, `4:3 5:9`, `4:2 5:11`, `5:11 4:3`, `4:3`},
		{dict, `10"f"`, `9:0 10"f"`, `10"f" 17:1`},
		{dict, `3:3`, `3:4`, `3:33`},
		{dict, `1"3Entry"`, `1"4Entry"`, `1"03Entry"`, `1"Entry"`, `1"FEntry"`, `1"3entry"`, `1"M.3Entry"`, ``, `1"3Entry" 1"3Entry"`},
		{dict, `2{1"key" 3:1 4:1 5:9}`, ``, `2{1"Key" 3:1 4:1 5:9}`, `2{1"key" 3:2 4:1 5:9}`, `2{1"key" 3:1 4:3 5:9}`, `2{1"key" 3:1 4:1}`, `2{1"key" 3:1 4:1 5:12}`, `2{1"key" 3:1 4:1 5:0}`, `2{1"key" 3:1 4:1 5:11 6".M"}`, `2{1"key" 3:1 4:1 5:9 10"key"}`, `2{1"key" 3:1 4:1 5:9 17:1}`, `2{1"key" 3:1 4:1 5:9 6".M"}`, `2{1"key" 3:1 4:1 5:9} 2{1"key" 3:1 4:1 5:9}`, `2{1"key" 4:1 5:9}`, `2{1"key" 3:1 5:9}`, `2{3:1 4:1 5:9}`},
		{dict, `2{1"value" 3:2 4:1 5:11 6".M"}`, ``, `2{1"Value" 3:2 4:1 5:11 6".M"}`, `2{1"value" 3:1 4:1 5:11 6".M"}`, `2{1"value" 3:2 4:3 5:11 6".M"}`, `2{1"value" 3:2 4:1 5:11 6"M"}`, `2{1"value" 3:2 4:1 5:11}`, `2{1"value" 3:2 4:1 5:14 6".M"}`, `2{1"value" 3:2 4:1 5:9 6".M"}`, `2{1"value" 3:2 4:1 5:11 6".M.3Entry"}`, `2{1"value" 3:2 4:1 5:11 6".M" 10"value"}`, `2{1"value" 3:2 4:1 5:11 6".M"} 2{1"value" 3:2 4:1 5:11 6".M"}`, `2{1"value" 3:2 4:1 5:9 9:0}`, `2{1"value" 3:2 4:1 5:10}`, `2{}`},
		{dict, `2{1"key" 3:1 4:1 5:9} 2{1"value" 3:2 4:1 5:11 6".M"}`, ``, `2{1"value" 3:2 4:1 5:11 6".M"} 2{1"key" 3:1 4:1 5:9}`, `2{} 2{}`},
		{dict, `7{7:1}`, ``, `7{}`, `7{7:0}`, `7{7:2}`, `7{7:1 7:1}`, `7{7:-1}`, `7{7"1"}`, `7{1:1}`, `7{3:0 7:1}`, `7:1`, `7"\x01"`, `7{7:1} 7{7:1}`, `7{7:1} 10"x"`, `7{7:1} 8{1"o"}`, `7{7:1} 4{1"E" 2{1"Z" 2:0}}`, `3{1"X"} 7{7:1}`},
		{dict, `3{1"3Entry" 2{1"key" 3:1 4:1 5:9} 2{1"value" 3:2 4:1 5:11 6".M"} 7{7:1}}`, ``, `3{1"3Entry"}`, `3{1"3Entry" 7{7:1}}`, `3{}`, `4{1"3Entry" 2{1"key" 3:1 4:1 5:9} 2{1"value" 3:2 4:1 5:11 6".M"} 7{7:1}}`,
			`3{1"3Entry" 2{1"key" 3:1 4:1 5:9} 2{1"value" 3:2 4:1 5:11 6".M"} 7{7:1}} 3{1"X"}`,
			`3{1"3Entry" 2{1"key" 3:1 4:1 5:9} 2{1"value" 3:2 4:1 5:11 6".M"} 7{7:1}} 3{1"4Entry" 2{1"key" 3:1 4:1 5:9} 2{1"value" 3:2 4:1 5:11 6".M"} 7{7:1}}`,
			`3{1"3Entry" 2{1"key" 3:1 4:1 5:9} 2{1"value" 3:2 4:1 5:11 6".M"} 7{7:1}} 3{1"3Entry" 2{1"key" 3:1 4:1 5:9} 2{1"value" 3:2 4:1 5:11 6".M"} 7{7:1}}`},
		{dict, `4{1"N"}`, `4{1"N" 2{1"f" 3:3 4:3 5:11 6".M.3Entry" 10"f"}}`, `4{1"N" 2{1"f" 3:3 4:1 5:11 6".M.3Entry" 10"f"}}`, `4{1"N" 3{1"3Entry" 2{1"key" 3:1 4:1 5:9} 2{1"value" 3:2 4:1 5:11 6".M"} 7{7:1}}}`, `4{1"3Entry" 2{1"key" 3:1 4:1 5:9} 2{1"value" 3:2 4:1 5:11 6".M"} 7{7:1}}`},
		{kept, `9{1:5 2:8}`, `9{1:5 2:5}`, `9{1:5 2:4}`, `9{1:0 2:8}`, `9{1:-1 2:8}`, `9{1:5 2:536870913}`, `9{1:5 2:-9223372036854775808}`, `9{1:5}`, `9{2:8}`, `9{}`, `9{2:8 1:5}`, `9{1:5 2:8 3:1}`, `9{1:5 2:8 2:8}`, `9:5`, `9{1:5 2:8} 9{1:7 2:9}`, `9{1:5 2:8} 9{1:5 2:8}`, `9{1:9 2:10} 9{1:5 2:8}`, `4{1:5 2:8}`},
		{kept, `4{1:5 2:8}`, `4{1:5 2:4}`, `4{1:0 2:8}`, `4{1:-2147483649 2:-1}`, `4{1:5 2:2147483648}`, `4{1:5}`, `4{2:8}`, `4{}`, `4{2:8 1:5}`, `4{1:5 2:8} 4{1:8 2:9}`, `4{1:9 2:9} 4{1:5 2:8}`, `9{1:5 2:8}`, `4:5`},
		{kept, `10"x"`, `10""`, `10"1"`, `10"x" 10"x"`, `10"y" 10"x"`, `10:1`, `10"x" 9{1:20 2:21}`, `10{1"x"}`, `11"x"`},
		{kept, `5"y"`, `5""`, `5"1"`, `5"y" 5"y"`, `5"z" 5"y"`, `5:1`, `5"y" 4{1:20 2:21}`, `6"y"`},
		{call, `2".M"`, `2"M"`, `2""`, `2"."`, `2".N"`, `2".S"`, `2".M" 2".M"`, ``, `2"..M"`, `2".M."`},
		{call, `3".M"`, `3"M"`, `3""`, `3"."`, `3".N"`, `3".S"`, `3".M" 3".M"`, ``, `3".M" 5:1`, `3".M" 6:1`, `3".M" 4{}`},
		{call, `1"F"`, ``, `1""`, `1"1"`, `1"F" 1"F"`, `1".F"`},
		{call, `2{1"F" 2".M" 3".M"}`, `2{}`, `2:0`, `2{1"F" 3".M" 2".M"}`, `2{1"F" 2".M" 3".M"} 2{1"F" 2".M" 3".M"}`, `3{1"F"}`},
		{call, `1"S"`, ``, `1""`, `1"M"`, `1"a.S"`, `1".S"`, `1"S" 1"S"`},
		{call, `6{1"S" 2{1"F" 2".M" 3".M"}}`, `6{1"S"} 6{1"S"}`, `6{1"S"} 6{1"R"}`, `6:0`, `6"S"`, `6{}`},
		{call, `4{1"M"}`, ``, `6{1"R"} 4{1"M"}`, `4{1"M"} 6{1"T"}`, `4{1"N"}`, `4{1"M" 6{1"S"}}`},
	} {
		good, place := row[0], row[1]
		if s, e := descpb.Decode(written(good)); e != api.OK || !strings.Contains(good, place) {
			t.Fatalf("%s, %s: %d, %v", good, place, e, s)
		}
		is(t, mustDecode(t, written(good)), written(good))
		for _, other := range row[2:] {
			bad := strings.Replace(good, place, other, 1)
			refuses(t, bad, written(bad))
			decodesAs(t, bad, written(bad))
		}
	}
}

// P10.2: bytes that are no records.
func TestNoRecords(t *testing.T) {
	for _, s := range []string{"00", "0A", "0A 01", "08", "FF", "80 80 80 80 80 80 80 80 80 80", "0B", "0C", "0E", "0F", "09", "0D 00", "0A 00 00", "0A 0B 0A 01 61 62 06 70 72 6F 74 6F 33 00", "0A FF FF FF FF 0F", "0A 81 80 40"} {
		refuses(t, s, unhex(t, s))
	}
	for n := range 1 << 16 {
		refuses(t, fmt.Sprint(n), []byte{byte(n >> 8), byte(n)})
	}
}

// P10.2: entries and messages that are nested deeper than they may be.
func TestDeepBytes(t *testing.T) {
	for deep := 1; deep < 30; deep++ {
		for _, inside := range []string{``, `4{1"E" 2{1"Z" 2:0}}`, `2{1"a" 3:1 4:3 5:11 6".M` + strings.Repeat(".M", deep-1) + `.1Entry" 10"a"} 3{1"1Entry" 2{1"key" 3:1 4:1 5:9} 2{1"value" 3:2 4:1 5:8} 7{7:1}}`} {
			b := written(`1{1"a" 4{1"M" ` + strings.Repeat(`3{1"M" `, deep-1) + inside + strings.Repeat("}", deep) + `12"proto3"}`)
			if decodesAs(t, fmt.Sprint(deep, " deep"), b) != (deep <= 8) {
				t.Errorf("%d deep", deep)
			}
		}
	}
	// An entry has no messages in it, however deep it is itself.
	for deep := range 12 {
		refuses(t, fmt.Sprint(deep, " deep in an entry"), written(`1{1"a" 4{1"M" 3{1"1Entry" `+strings.Repeat(`3{1"M" `, deep)+strings.Repeat("}", deep)+`7{7:1}}} 12"proto3"}`))
	}
}
