package dec_test

import (
	"math/rand"
	"slices"
	"testing"

	"signetry/api"
)

// P13.1: maps from each type to each type, with parts left out.
func TestMaps(t *testing.T) {
	t.Parallel()
	all := samples()
	for _, key := range keyTypes {
		for typ := range types {
			s := typed(t, typ, key)
			noKey, noValue := none(plain(key, api.Opt)), none(plain(typ, api.Opt))
			of := func(k, v api.Val) api.Val { return msg("M4", slot(1, entry(k, v))) }
			reads(t, s, "M4", raw("0a00"), of(noKey, noValue))
			for _, k := range all[key] {
				reads(t, s, "M4", record(1, recordOf(1, key, k)), of(k.v, noValue))
				for _, v := range all[typ] {
					both := [][]byte{recordOf(1, key, k), recordOf(2, typ, v)}
					reads(t, s, "M4", record(1, both[0], both[1]), of(k.v, v.v))
					reads(t, s, "M4", record(1, both[1], both[0]), of(k.v, v.v))
				}
			}
			for _, v := range all[typ] {
				reads(t, s, "M4", record(1, recordOf(2, typ, v)), of(noKey, v.v))
			}
		}
	}
}

// mapSet is a set with maps.
const mapSet = `a:message M{map<int32,string>a=1;map<string,int32>b=2;map<bool,M>c=3;map<uint64,E>d=4;map<sint32,double>e=5;int32 n=6;M m=7;repeated int32 l=8;}enum E{Z=0;}`

// P13.1: parts of entries: left out, doubled, unknown, in another order.
func TestParts(t *testing.T) {
	s := built(t, mapSet)
	for text, want := range map[string]api.Val{
		"0a00":                         msg("M", slot(1, entry(num(0), str("")))),
		"0a020805":                     msg("M", slot(1, entry(num(5), str("")))),
		"0a03120161":                   msg("M", slot(1, entry(num(0), str("a")))),
		"0a050805120161":               msg("M", slot(1, entry(num(5), str("a")))),
		"0a051201610805":               msg("M", slot(1, entry(num(5), str("a")))),
		"0a0408050806":                 msg("M", slot(1, entry(num(6), str("")))),
		"0a0408050800":                 msg("M", slot(1, entry(num(0), str("")))),
		"0a06120161120162":             msg("M", slot(1, entry(num(0), str("b")))),
		"0a051201611200":               msg("M", slot(1, entry(num(0), str("")))),
		"0a0a 0805 120161 0806 120162": msg("M", slot(1, entry(num(6), str("b")))),
		"0a08 1801 0805 1a00 1200":     msg("M", slot(1, entry(num(5), str("")))),
		"0a07 0d05000000 0805":         msg("M", slot(1, entry(num(5), str("")))),
		"0a05 0a0105 0805":             msg("M", slot(1, entry(num(5), str("")))),
		"0a05 0a0105 1005":             msg("M", slot(1, entry(num(0), str("")))),
		"0a0b 08ffffffffffffffffff01":  msg("M", slot(1, entry(num(-1), str("")))),
		"1200":                         msg("M", slot(2, entry(str(""), num(0)))),
		"1205 0a0161 1005":             msg("M", slot(2, entry(str("a"), num(5)))),
		"1205 0a0161 1000":             msg("M", slot(2, entry(str("a"), num(0)))),
		"1207 0a0161 1005 1000":        msg("M", slot(2, entry(str("a"), num(0)))),
		"1206 0a0161 120105":           msg("M", slot(2, entry(str("a"), num(0)))),
		"1a00":                         msg("M", slot(3, entry(num(0), msg("M")))),
		"1a020801":                     msg("M", slot(3, entry(num(1), msg("M")))),
		"1a020803":                     msg("M", slot(3, entry(num(1), msg("M")))),
		"1a020802":                     msg("M", slot(3, entry(num(0), msg("M")))),
		"1a021200":                     msg("M", slot(3, entry(num(0), msg("M")))),
		"1a041202 3005":                msg("M", slot(3, entry(num(0), msg("M", slot(6, num(5)))))),
		"1a081202 3005 1202 4001":      msg("M", slot(3, entry(num(0), msg("M", slot(6, num(5)), slot(8, num(1)))))),
		"1a0a1202 3005 0801 1202 4001": msg("M", slot(3, entry(num(1), msg("M", slot(6, num(5)), slot(8, num(1)))))),
		"1a081202 3005 1202 3000":      msg("M", slot(3, entry(num(0), msg("M")))),
		"220408011005":                 msg("M", slot(4, entry(num(1), num(5)))),
		"220b10ffffffffffffffffff01":   msg("M", slot(4, entry(num(0), num(-1)))),
		"220b08ffffffffffffffffff01":   msg("M", slot(4, entry(whole("18446744073709551615"), num(0)))),
		"2a0b0801 110000000000000080":  msg("M", slot(5, entry(num(-1), f64(1<<63)))),
		"3a04 0a020805":                msg("M", slot(7, msg("M", slot(1, entry(num(5), str("")))))),
		"0a02 0805 0d01000000 0801":    msg("M", slot(1, entry(num(5), str("")))),
	} {
		var unknown [][]byte
		if text == "0a02 0805 0d01000000 0801" {
			unknown = [][]byte{raw("0d01000000"), raw("0801")}
		}
		reads(t, s, "M", raw(text), want, unknown...)
	}
}

// P13.1: an entry replaces the one with its key, as a whole; entries are in the order of
// their keys, whatever order they stand in.
func TestEntries(t *testing.T) {
	s := built(t, mapSet)
	for text, want := range map[string]api.Val{
		"0a00 0a00":                                msg("M", slot(1, entry(num(0), str("")))),
		"0a05 0805120161 0a05 0805120162":          msg("M", slot(1, entry(num(5), str("b")))),
		"0a05 0805120161 0a02 0805":                msg("M", slot(1, entry(num(5), str("")))),
		"0a020806 0a020805":                        msg("M", slot(1, entry(num(5), str("")), entry(num(6), str("")))),
		"0a020805 0a00 0a0b08ffffffffffffffffff01": msg("M", slot(1, entry(num(-1), str("")), entry(num(0), str("")), entry(num(5), str("")))),
		"0a05 0805120161 0a020801 0a02 0805":       msg("M", slot(1, entry(num(1), str("")), entry(num(5), str("")))),
		"12030a0162 12030a0161 1200 12030a0162":    msg("M", slot(2, entry(str(""), num(0)), entry(str("a"), num(0)), entry(str("b"), num(0)))),
		"12040a026161 12030a0161 12030a0162":       msg("M", slot(2, entry(str("a"), num(0)), entry(str("aa"), num(0)), entry(str("b"), num(0)))),
		// Messages of two entries are not put together.
		"1a041202 3005 1a041202 4001":     msg("M", slot(3, entry(num(0), msg("M", slot(8, num(1)))))),
		"1a041202 3005 1a00":              msg("M", slot(3, entry(num(0), msg("M")))),
		"1a041202 3005 1a020801":          msg("M", slot(3, entry(num(0), msg("M", slot(6, num(5)))), entry(num(1), msg("M")))),
		"1a0608011202 3005 1a041202 3006": msg("M", slot(3, entry(num(0), msg("M", slot(6, num(6)))), entry(num(1), msg("M", slot(6, num(5)))))),
		// Keys that are the same in the bits of their type.
		"1a020801 1a040803 1200":    msg("M", slot(3, entry(num(1), msg("M")))),
		"0a020805 0a06088580808010": msg("M", slot(1, entry(num(5), str("")))),
		"0a00 0a06088080808010":     msg("M", slot(1, entry(num(0), str("")))),
		"0a03088500":                msg("M", slot(1, entry(num(5), str("")))),
	} {
		reads(t, s, "M", raw(text), want)
		// In several records of a message, and in an entry of an entry.
		b := []byte{}
		for _, p := range cut(string(raw(text))) {
			b = append(b, record(7, []byte(p.raw))...)
		}
		reads(t, s, "M", b, msg("M", slot(7, want)))
		reads(t, s, "M", record(3, record(2, raw(text))), msg("M", slot(3, entry(num(0), want))))
		reads(t, s, "M", record(3, record(2, record(3, record(2, raw(text))))), msg("M", slot(3, entry(num(0), msg("M", slot(3, entry(num(0), want)))))))
	}
}

// P13.1: all orders of entries with keys of each type, of which the last one is the same
// as each of the others in turn.
func TestOrdersOfEntries(t *testing.T) {
	t.Parallel()
	for _, typ := range keyTypes {
		s := typed(t, api.TString, typ)
		l := rising(typ)
		for start := 0; start < len(l); start += 3 {
			some := l[start:min(start+4, len(l))]
			for _, order := range orders(len(some)) {
				for again := range some {
					var b []byte
					for _, i := range order {
						b = append(b, record(1, recordOf(1, typ, some[i]), record(2, []byte("first")))...)
					}
					b = append(b, record(1, recordOf(1, typ, some[again]), record(2, []byte("second")))...)
					want := msg("M4", slot(1))
					for i, k := range some {
						v := str("first")
						if i == again {
							v = str("second")
						}
						want.F[0].L = append(want.F[0].L, entry(k.v, v))
					}
					reads(t, s, "M4", b, want)
				}
			}
		}
	}
}

// rising is samples of a type by increasing numbers, or bytes.
func rising(typ int) []sample {
	l := slices.Clone(samples()[typ])
	slices.SortFunc(l, func(a, b sample) int {
		if isAhead(a.v, b.v) {
			return -1
		}
		return 1
	})
	return l
}

// P13.1: many entries, many of them with the same keys.
func TestManyEntries(t *testing.T) {
	t.Parallel()
	s := built(t, mapSet)
	r := rand.New(rand.NewSource(30))
	for range 20 {
		of := map[int]string{}
		var b []byte
		for range 1000 {
			k, v := r.Intn(500)-250, pick(r, []string{"", "a", "b", "c"})
			of[k] = v
			b = append(b, encoded(t, s, "M", msg("M", slot(1, entry(num(k), str(v)))), nil)...)
		}
		want := msg("M", slot(1))
		for k := -250; k < 250; k++ {
			if v, found := of[k]; found {
				want.F[0].L = append(want.F[0].L, entry(num(k), str(v)))
			}
		}
		reads(t, s, "M", b, want)
	}
}
