package dec_test

import (
	"slices"
	"testing"

	"signetry/api"
)

// treeOf is a set of messages that have each other.
const treeOf = `a:message M{int32 a=1;M m=2;repeated M l=3;map<int32,M>k=4;repeated int32 r=5;map<bool,int32>b=6;oneof o{int32 x=7;M y=8;string z=9;}oneof p{int32 u=10;int32 v=11;}bytes t=12;repeated bytes w=13;optional int32 q=14;string s=15;optional string f=16;map<int32,int32>g=17;}message N{}enum E{Z=0;}service S{}`

// P13.1: zero values: none in One, some in all other cards, of each type.
func TestZeroValues(t *testing.T) {
	for typ, l := range samples() {
		s := typed(t, typ, api.TInt32)
		zero, other := recordOf(1, typ, l[0]), recordOf(1, typ, l[1])
		reads(t, s, "M2", zero, msg("M2", slot(1, l[0].v)))
		reads(t, s, "M3", zero, msg("M3", slot(1, l[0].v)))
		reads(t, s, "O", zero, msg("O", slot(1, l[0].v)))
		reads(t, s, "M3", slices.Concat(other, zero), msg("M3", slot(1, l[1].v, l[0].v)))
		reads(t, s, "M3", slices.Concat(zero, other), msg("M3", slot(1, l[0].v, l[1].v)))
		if typ == api.TMsg {
			continue
		}
		reads(t, s, "M1", zero, msg("M1"))
		reads(t, s, "M1", slices.Concat(other, zero), msg("M1"))
		reads(t, s, "M1", slices.Concat(zero, other), msg("M1", slot(1, l[1].v)))
		reads(t, s, "M1", slices.Concat(other, zero, other), msg("M1", slot(1, l[1].v)))
		reads(t, s, "M1", slices.Concat(zero, zero), msg("M1"))
		reads(t, s, "M2", slices.Concat(other, zero), msg("M2", slot(1, l[0].v)))
		reads(t, s, "M2", slices.Concat(zero, other), msg("M2", slot(1, l[1].v)))
	}
	// A zero with a sign is none of the zero values.
	s := built(t, `a:message M{float a=1;double b=2;}`)
	reads(t, s, "M", raw("0d00000080 110000000000000080"), msg("M", slot(1, f32(1<<31)), slot(2, f64(1<<63))))
	reads(t, s, "M", raw("0d00000080 0d00000000 110000000000000080 110000000000000000"), msg("M"))
}

// P13.1: of a field that stands twice the last one counts, each value of a list, and in
// which order the fields stand does not matter.
func TestFieldsThatStandTwice(t *testing.T) {
	for typ, l := range samples() {
		s := typed(t, typ, api.TInt32)
		for _, x := range l {
			for _, y := range l {
				b := slices.Concat(recordOf(1, typ, x), recordOf(1, typ, y))
				reads(t, s, "M3", b, msg("M3", slot(1, x.v, y.v)))
				if typ == api.TMsg {
					continue
				}
				reads(t, s, "M2", b, msg("M2", slot(1, y.v)))
				reads(t, s, "O", b, msg("O", slot(1, y.v)))
				if !isZero(y.v) {
					reads(t, s, "M1", b, msg("M1", slot(1, y.v)))
				}
			}
		}
	}
	s := built(t, treeOf)
	for _, text := range []string{"0801 1200 7003 7a0161", "7a0161 7003 1200 0801", "7003 0801 7a0161 1200", "0802 7a00 7004 0801 1200 7a0161 1200 7003"} {
		reads(t, s, "M", raw(text), msg("M", slot(1, num(1)), slot(2, msg("M")), slot(14, num(3)), slot(15, str("a"))))
	}
}

// P13.1: a message of a field that has one, in several records: as if their bytes were
// one after the other, with others between them or not.
func TestNestedMessages(t *testing.T) {
	s := built(t, treeOf)
	one := func(slots ...api.Slot) api.Val { return msg("M", slot(2, msg("M", slots...))) }
	for text, want := range map[string]api.Val{
		"1200":                                 one(),
		"1200 1200":                            one(),
		"12020801":                             one(slot(1, num(1))),
		"12020801 1200":                        one(slot(1, num(1))),
		"1200 12020801":                        one(slot(1, num(1))),
		"12020801 12020802":                    one(slot(1, num(2))),
		"12020801 12020800":                    one(),
		"12020800 12020801":                    one(slot(1, num(1))),
		"12027001 12027000":                    one(slot(14, num(0))),
		"12020801 12027002":                    one(slot(1, num(1)), slot(14, num(2))),
		"12027002 12020801":                    one(slot(1, num(1)), slot(14, num(2))),
		"12022801 12022802 12042a020304":       one(slot(5, num(1), num(2), num(3), num(4))),
		"12021a00 12021a00":                    one(slot(3, msg("M"), msg("M"))),
		"12041a020801 12041a027001":            one(slot(3, msg("M", slot(1, num(1))), msg("M", slot(14, num(1))))),
		"120412020801 120412027002":            one(slot(2, msg("M", slot(1, num(1)), slot(14, num(2))))),
		"120412020801 1200 120412020802 1200":  one(slot(2, msg("M", slot(1, num(2))))),
		"120412020801 120412020800":            one(slot(2, msg("M"))),
		"1206 120412020801 1206 120412027002":  one(slot(2, msg("M", slot(2, msg("M", slot(1, num(1)), slot(14, num(2))))))),
		"12043202 0801 12043202 1005":          one(slot(6, entry(num(0), num(5)), entry(num(1), num(0)))),
		"12043202 1001 12043202 1005":          one(slot(6, entry(num(0), num(5)))),
		"12023801 12024200":                    one(slot(8, msg("M"))),
		"12044202 0801 12044202 7001":          one(slot(8, msg("M", slot(1, num(1)), slot(14, num(1))))),
		"12044202 0801 12023801 12044202 7001": one(slot(8, msg("M", slot(14, num(1))))),
		"12044202 0801 12023801":               one(slot(7, num(1))),
	} {
		reads(t, s, "M", raw(text), want)
		// With other fields, and with unknown records, between them and around them.
		l := cut(string(raw(text)))
		b, unknown := raw("7005 9a0100"), [][]byte{raw("9a0100")}
		for _, p := range l {
			b = append(append(b, p.raw...), raw("0807 9a0100")...)
			unknown = append(unknown, raw("9a0100"))
		}
		v := msg("M", slices.Concat([]api.Slot{slot(1, num(7))}, want.F, []api.Slot{slot(14, num(5))})...)
		reads(t, s, "M", b, v, unknown...)
	}
}

// P13.1: of a oneof the last one is there, whatever stood ahead of it.
func TestOneofs(t *testing.T) {
	s := built(t, treeOf)
	for text, want := range map[string]api.Val{
		"3801":                        msg("M", slot(7, num(1))),
		"3800":                        msg("M", slot(7, num(0))),
		"3801 3800":                   msg("M", slot(7, num(0))),
		"3801 3802":                   msg("M", slot(7, num(2))),
		"3801 4200":                   msg("M", slot(8, msg("M"))),
		"4200 3800":                   msg("M", slot(7, num(0))),
		"3801 4a00":                   msg("M", slot(9, str(""))),
		"4a0161 3800 4200 4a00":       msg("M", slot(9, str(""))),
		"3801 4a0161 3802":            msg("M", slot(7, num(2))),
		"42020801 42027001":           msg("M", slot(8, msg("M", slot(1, num(1)), slot(14, num(1))))),
		"42020801 3801":               msg("M", slot(7, num(1))),
		"42020801 3801 4200":          msg("M", slot(8, msg("M"))),
		"42020801 3800 42027001":      msg("M", slot(8, msg("M", slot(14, num(1))))),
		"42020801 4a00 42027001 4200": msg("M", slot(8, msg("M", slot(14, num(1))))),
		"42020801 5001 42027001":      msg("M", slot(8, msg("M", slot(1, num(1)), slot(14, num(1)))), slot(10, num(1))),
		"42020801 0801 42027001":      msg("M", slot(1, num(1)), slot(8, msg("M", slot(1, num(1)), slot(14, num(1))))),
		"5001 5801":                   msg("M", slot(11, num(1))),
		"5801 5001":                   msg("M", slot(10, num(1))),
		"3801 5001 4200 5801":         msg("M", slot(8, msg("M")), slot(11, num(1))),
		"0801 1200 3801 7001 4a00":    msg("M", slot(1, num(1)), slot(2, msg("M")), slot(9, str("")), slot(14, num(1))),
		"42043801 4200":               msg("M", slot(8, msg("M", slot(8, msg("M"))))),
		"42023801 3801 42024a00":      msg("M", slot(8, msg("M", slot(9, str(""))))),
		"42023801 42024a00":           msg("M", slot(8, msg("M", slot(9, str(""))))),
		"1a023801 1a024a00 3801":      msg("M", slot(3, msg("M", slot(7, num(1))), msg("M", slot(9, str("")))), slot(7, num(1))),
	} {
		reads(t, s, "M", raw(text), want)
	}
	// What does not fit takes nothing away.
	for _, text := range []string{"3d01000000", "390100000000000000", "3a0101", "4001", "4501000000", "4801", "4d01000000"} {
		reads(t, s, "M", slices.Concat(raw("42020801"), raw(text), raw("42027001")), msg("M", slot(8, msg("M", slot(1, num(1)), slot(14, num(1))))), raw(text))
	}
	// All orders of all members, some of them twice.
	records := [][]byte{raw("3801"), raw("42020801"), raw("42027001"), raw("4a0161"), raw("3802")}
	for _, order := range orders(5) {
		var b []byte
		for _, i := range order {
			b = append(b, records[i]...)
			likeSecond(t, s, "M", b)
			likeSecond(t, s, "M", append(raw("5001"), b...))
		}
	}
}

// orders is all orders of the numbers from 0 on, as many as that.
func orders(n int) (all [][]int) {
	if n == 0 {
		return [][]int{nil}
	}
	for _, l := range orders(n - 1) {
		for at := range n {
			all = append(all, slices.Insert(slices.Clone(l), at, n-1))
		}
	}
	return all
}

// P13.1: a oneof whose fields are many, among those of other oneofs and of none.
func TestManyOneofs(t *testing.T) {
	s := built(t, `a:message M{oneof o{int32 a=9;string b=2;}int32 c=5;oneof p{int32 d=1;M e=8;}oneof q{bool f=3;bool g=4;bool h=6;bool i=7;}}`)
	records := map[int][]byte{1: raw("0801"), 2: raw("120161"), 3: raw("1801"), 4: raw("2001"), 5: raw("2801"), 6: raw("3001"), 7: raw("3801"), 8: raw("4200"), 9: raw("4801")}
	group := map[int]int{9: 1, 2: 1, 1: 2, 8: 2, 3: 3, 4: 3, 6: 3, 7: 3}
	values := map[int]api.Val{2: str("a"), 8: msg("M")}
	for a := 1; a <= 9; a++ {
		for b := 1; b <= 9; b++ {
			for c := 1; c <= 9; c++ {
				there := map[int]bool{}
				for _, n := range []int{a, b, c} {
					for other := range there {
						if group[n] > 0 && group[other] == group[n] {
							delete(there, other)
						}
					}
					there[n] = true
				}
				want := msg("M")
				for n := 1; n <= 9; n++ {
					v, isOther := values[n]
					if !isOther {
						v = num(1)
					}
					if there[n] {
						want.F = append(want.F, slot(n, v))
					}
				}
				reads(t, s, "M", slices.Concat(records[a], records[b], records[c]), want)
			}
		}
	}
}

// P13.1: unknown records, in their order: of no field, and of other wire types, at the
// top; those inside of messages and entries are discarded.
func TestUnknownRecords(t *testing.T) {
	s := built(t, treeOf)
	some := [][]byte{raw("9a0101ff"), raw("98018001"), raw("9801808000"), raw("9d0101020304"), raw("99010102030405060708"), raw("f8ffffff0f00"), raw("0d01000000"), raw("1001"), raw("2801"), raw("2d01000000"), raw("3001"), raw("9a0100"), raw("9a818000 80 00")}
	for i, a := range some {
		if i == 8 {
			continue
		}
		reads(t, s, "M", a, msg("M"), a)
		for j, b := range some {
			if j == 8 {
				continue
			}
			reads(t, s, "M", slices.Concat(a, b), msg("M"), a, b)
			reads(t, s, "M", slices.Concat(a, raw("0801"), b, raw("7001")), msg("M", slot(1, num(1)), slot(14, num(1))), a, b)
			both := slices.Concat(a, b)
			reads(t, s, "M", record(2, both), msg("M", slot(2, msg("M"))))
			reads(t, s, "M", record(3, both), msg("M", slot(3, msg("M"))))
			reads(t, s, "M", record(8, both, raw("0801")), msg("M", slot(8, msg("M", slot(1, num(1))))))
			reads(t, s, "M", record(4, record(2, both)), msg("M", slot(4, entry(num(0), msg("M")))))
			reads(t, s, "M", slices.Concat(a, record(2, b, record(2, a, raw("0801"))), b), msg("M", slot(2, msg("M", slot(2, msg("M", slot(1, num(1))))))), a, b)
		}
	}
	reads(t, s, "N", slices.Concat(raw("0801"), raw("1200"), raw("0801")), msg("N"), raw("0801"), raw("1200"), raw("0801"))
	// Fields of one message are unknown to another one.
	u := built(t, `a:message M{int32 a=1;N n=2;}message N{int32 b=3;}`)
	reads(t, u, "M", raw("0801 1801 1204 0801 1801"), msg("M", slot(1, num(1)), slot(2, msg("N", slot(3, num(1))))), raw("1801"))
	reads(t, u, "N", raw("0801 1801"), msg("N", slot(3, num(1))), raw("0801"))
	// Numbers of fields at both ends.
	w := built(t, `a:message M{int32 a=1;int32 b=536870911;}`)
	reads(t, w, "M", raw("f8ffffff0f05 f0ffffff0f05 0801 1002"), msg("M", slot(1, num(1)), slot(1<<29-1, num(5))), raw("f0ffffff0f05"), raw("1002"))
}
