package print_test

import (
	"fmt"
	"strings"
	"testing"

	"signetry/api"
)

// wholeTree is a valid tree in which every list has two elements or more
// somewhere, and no part but Key and Oneof is zero everywhere.
func wholeTree() api.Tree {
	names := func(s string, at int) []api.Text { return []api.Text{{S: s, At: at}, {S: s + "2", At: at + 1}} }
	spans := func() []api.Span { return []api.Span{{Lo: 2, Hi: 3, At: 3}, {Lo: 4, Hi: 5, At: 6}} }
	fields := func() []api.FieldDef {
		return []api.FieldDef{
			{Name: "a", Type: "b", Key: "c", Json: "d", Card: api.Map, Num: 1, Oneof: -1, At: 2, TypeAt: 3, NumAt: 4},
			{Name: "e", Type: "f", Json: "h", Card: api.Opt, Num: 5, Oneof: 0, At: 6, TypeAt: 7, NumAt: 8},
			{Name: "i", Type: "j", Json: "k", Card: api.Opt, Num: 6, Oneof: 0, At: 9, TypeAt: 9, NumAt: 9},
			{Name: "l", Type: "m", Json: "n", Card: api.One, Num: 7, Oneof: -1, At: 9, TypeAt: 9, NumAt: 9},
			{Name: "o", Type: "p", Json: "q", Card: api.Opt, Num: 8, Oneof: 2, At: 9, TypeAt: 9, NumAt: 9},
			{Name: "r", Type: "s", Json: "t", Card: api.Rep, Num: 9, Oneof: -1, At: 9, TypeAt: 9, NumAt: 9},
			{Name: "u", Type: "v", Json: "w", Card: api.Opt, Num: 3, Oneof: -1, At: 9, TypeAt: 9, NumAt: 9},
		}
	}
	enum := func(name string) api.EnumDef {
		return api.EnumDef{Name: name, At: 5, Values: []api.ValueDef{{Name: "A", Num: 1, At: 2}, {Name: "B", Num: -1, At: 3}}, Ranges: spans(), Names: names("n", 3)}
	}
	message := func(name string, inner ...api.MsgDef) api.MsgDef {
		oneofs := append(names("o", 1), names("p", 4)...)
		return api.MsgDef{Name: name, At: 7, Fields: fields(), Oneofs: oneofs, Msgs: inner, Enums: []api.EnumDef{enum("E"), enum("F")}, Ranges: spans(), Names: names("r", 9)}
	}
	service := func(name string) api.SvcDef {
		return api.SvcDef{Name: name, At: 1, Rpcs: []api.RpcDef{{Name: "F", In: "M", Out: "N", At: 1, InAt: 2, OutAt: 3}, {Name: "G", In: "O", Out: "P", At: 4, InAt: 5, OutAt: 6}}}
	}
	return api.Tree{
		Package: "p.q", Imports: []api.Import{{Path: "i", Public: true, At: 1}, {Path: "j", Public: true, At: 2}},
		Msgs:  []api.MsgDef{message("M", api.MsgDef{Name: "N", At: 1}, message("P")), {Name: "R", At: 2, Names: names("r", 9)}},
		Enums: []api.EnumDef{enum("E"), enum("F")}, Svcs: []api.SvcDef{service("S"), service("T")},
	}
}

// P5.1: a tree without anything is valid, with nil lists as with empty ones.
func TestEmptyTree(t *testing.T) {
	for _, of := range []api.Tree{{}, {Imports: []api.Import{}, Msgs: []api.MsgDef{}, Enums: []api.EnumDef{}, Svcs: []api.SvcDef{}}} {
		if got := accepts(t, "nothing", of); got != lines()[:19] {
			t.Errorf("%q", got)
		}
	}
	bare := api.MsgDef{Name: "M", Fields: []api.FieldDef{}, Oneofs: []api.Text{}, Msgs: []api.MsgDef{}, Enums: []api.EnumDef{{Name: "E", Values: []api.ValueDef{}, Ranges: []api.Span{}, Names: []api.Text{}}}, Ranges: []api.Span{}, Names: []api.Text{}}
	accepts(t, "empty lists", api.Tree{Msgs: []api.MsgDef{bare}, Svcs: []api.SvcDef{{Name: "S", Rpcs: []api.RpcDef{}}}})
}

// P5.1: Package is empty or a full name.
func TestPackage(t *testing.T) {
	for s, want := range map[string]bool{
		"": true, "a": true, "a.b": true, "message": true, "package.import": true, fullOf(api.MaxFull): true,
		fullOf(api.MaxFull + 1): false, ".a": false, "a.": false, ".": false, "a..b": false, "1": false, "a.1": false, " ": false, "a b": false, "a ": false, "a;": false, "\xc3\xa4": false,
		strings.Repeat("q", api.MaxIdent): true, strings.Repeat("q", api.MaxIdent+1): false,
	} {
		valid(t, "package "+s, api.Tree{Package: s}, want)
	}
}

// P5.1: the paths of imports are paths, each of them.
func TestPaths(t *testing.T) {
	for s, want := range map[string]bool{
		"a": true, "a/b.proto": true, "-": true, "..": true, "5_": true, strings.Repeat("p", api.MaxPath): true,
		"": false, strings.Repeat("p", api.MaxPath+1): false, "a b": false, "\xc3\xa4": false, "a\"": false, "a\n": false, "a\\": false, "a;": false, ":": false, "@": false,
	} {
		for _, public := range []bool{true, false} {
			i := api.Import{Path: s, Public: public}
			valid(t, "import "+s, api.Tree{Imports: []api.Import{i}}, want)
			valid(t, "import among others "+s, api.Tree{Imports: []api.Import{{Path: "x"}, i, {Path: "y", Public: true}}}, want)
		}
	}
}

// declaring is a tree of a name, in each place where a name is declared or
// reserved.
func declaring(s string) map[string]api.Tree {
	all := map[string]api.Tree{
		"service": {Svcs: []api.SvcDef{{Name: "X"}, {Name: s}}},
		"rpc":     {Svcs: []api.SvcDef{{Name: "S", Rpcs: []api.RpcDef{{Name: "X", In: "A", Out: "A"}, {Name: s, In: "A", Out: "A"}}}}},
	}
	for _, place := range messagePlaces() {
		all[place.name] = place.put(api.MsgDef{Name: s})
		all["reserved name in "+place.name] = place.put(api.MsgDef{Name: "M", Names: []api.Text{{S: "x"}, {S: s}}})
		all["oneof in "+place.name] = place.put(api.MsgDef{Name: "M", Oneofs: []api.Text{{S: "x"}, {S: s}, {S: "y"}}})
		for kind, f := range fieldKinds() {
			f.Name = s
			all["field in "+place.name+", "+kind] = place.put(oneField(f, 1))
		}
	}
	for _, place := range enumPlaces() {
		all[place.name] = place.put(api.EnumDef{Name: s})
		all["reserved name in "+place.name] = place.put(api.EnumDef{Name: "E", Names: []api.Text{{S: s}, {S: "x"}}})
		all["value in "+place.name] = place.put(api.EnumDef{Name: "E", Values: []api.ValueDef{{Name: "X"}, {Name: s}}})
	}
	return all
}

// P5.1: all declared and reserved names are identifiers; the name of a value is
// neither reserved nor option.
func TestDeclaredNames(t *testing.T) {
	names := map[string]bool{
		"a": true, "_": true, "Z9": true, strings.Repeat("q", api.MaxIdent): true,
		"": false, "1a": false, "a.b": false, ".a": false, "a b": false, "a ": false, " a": false, "a\n": false, "a-": false, "\xc3\xa4": false, "a/**/": false, "a{}": false, strings.Repeat("q", api.MaxIdent+1): false,
	}
	for _, s := range keywords() {
		names[s] = true
	}
	for s, want := range names {
		for where, of := range declaring(s) {
			noValue := strings.HasPrefix(where, "value") && (s == "reserved" || s == "option")
			valid(t, fmt.Sprintf("%s %q", where, s), of, want && !noValue)
		}
	}
}

// typeNames is strings, and whether they may be the name of a type.
func typeNames() map[string]bool {
	return map[string]bool{
		"a": true, ".a": true, "a.b": true, ".a.b.c": true, "_": true,
		fullOf(api.MaxFull): true, "." + fullOf(api.MaxFull-1): true,
		strings.Repeat("q", api.MaxIdent) + ".a": true, ".a." + strings.Repeat("q", api.MaxIdent): true,
		"": false, ".": false, "..a": false, "a.": false, ".a.": false, "a..b": false, "1": false, "a.1": false, ".1": false, "a b": false, " a": false, "a .b": false, "a\n": false, "\xc3\xa4": false, "a,b": false, "a>": false, "a)": false,
		fullOf(api.MaxFull + 1): false, "." + fullOf(api.MaxFull): false,
		strings.Repeat("q", api.MaxIdent+1) + ".a": false, "." + strings.Repeat("q", api.MaxIdent+1): false,
	}
}

// P5.1: a Type, a Key, an In and an Out are a full name, or a period and one, of
// at most 128 bytes.
func TestTypeNames(t *testing.T) {
	rpc := func(r api.RpcDef) api.Tree {
		r.Name = "F"
		return api.Tree{Svcs: []api.SvcDef{{Name: "S", Rpcs: []api.RpcDef{{Name: "X", In: "A", Out: "A"}, r}}}}
	}
	for s, want := range typeNames() {
		valid(t, "request "+s, rpc(api.RpcDef{In: s, Out: "A"}), want)
		valid(t, "answer "+s, rpc(api.RpcDef{In: "A", Out: s}), want)
		for kind, f := range fieldKinds() {
			for _, place := range messagePlaces() {
				f.Type = s
				valid(t, kind+" "+s, place.put(oneField(f, 1)), want)
			}
		}
		f := fieldKinds()["map"]
		f.Key = s
		valid(t, "key "+s, nested(0, oneField(f, 1)), want)
	}
	for _, s := range keywords() {
		f := fieldKinds()["map"]
		f.Key = s
		accepts(t, "key "+s, nested(0, oneField(f, 0)))
		accepts(t, "request and answer "+s, rpc(api.RpcDef{In: s, Out: s}))
	}
}

// noChoice is what a field of a oneof may not begin with, noField what another
// one may not begin with: in the words of the chapter.
func noChoice() []string {
	return strings.Fields("option optional repeated map group")
}

func noField() []string {
	return strings.Fields("message enum oneof reserved optional repeated map option extensions extend group")
}

// P5.1: a field does not begin with an identifier that begins something else,
// but its type may, behind what it begins with.
func TestFirstIdentifiers(t *testing.T) {
	for _, first := range append(keywords(), "T") {
		for kind, f := range fieldKinds() {
			want := true
			for _, s := range map[string][]string{"one": noField(), "oneof": noChoice()}[kind] {
				want = want && s != first
			}
			for s, want := range map[string]bool{
				first: want, first + ".a": want, first + "." + first: want,
				"." + first: true, "." + first + ".a": true, "a." + first: true, first + "x": true, "x" + first: true, strings.ToUpper(first): true,
			} {
				f.Type = s
				valid(t, kind+" of type "+s, nested(1, oneField(f, 2)), want)
			}
		}
	}
}

// P5.1: numbers of fields are from 0 to 2^31, those of values from -2^31.
func TestNumbers(t *testing.T) {
	for n, from := range map[int]string{
		-1 << 63: "", -1<<31 - 1: "", 1<<31 + 1: "", 1<<63 - 1: "", 1 << 32: "",
		-1 << 31: "enum", -1<<31 + 1: "enum", -1: "enum",
		0: "message", 1: "message", 1<<29 - 1: "message", 1 << 29: "message", 1<<31 - 1: "message", 1 << 31: "message",
	} {
		for kind, f := range fieldKinds() {
			for _, place := range messagePlaces() {
				f.Num = n
				valid(t, fmt.Sprintf("%s = %d in %s", kind, n, place.name), place.put(oneField(f, 1)), from == "message")
			}
		}
		for _, place := range enumPlaces() {
			values := []api.ValueDef{{Name: "X"}, {Name: "A", Num: n}}
			valid(t, fmt.Sprintf("value %d in %s", n, place.name), place.put(api.EnumDef{Name: "E", Values: values}), from != "")
		}
	}
}

// P5.1: Lo and Hi of a range are such numbers too, and Lo is at most Hi.
func TestRanges(t *testing.T) {
	numbers := []int{-1 << 63, -1<<31 - 1, -1 << 31, -2, -1, 0, 1, 2, 1<<29 - 2, 1<<29 - 1, 1 << 29, 1<<31 - 2, 1<<31 - 1, 1 << 31, 1<<31 + 1, 1<<63 - 1}
	for _, lo := range numbers {
		for _, hi := range numbers {
			what, l := fmt.Sprint(lo, " to ", hi), []api.Span{{Lo: 1, Hi: 1}, {Lo: lo, Hi: hi}, {Lo: 1, Hi: 2}}
			for _, place := range messagePlaces() {
				valid(t, what+" in "+place.name, place.put(api.MsgDef{Name: "M", Ranges: l}), 0 <= lo && lo <= hi && hi <= 1<<31)
			}
			for _, place := range enumPlaces() {
				valid(t, what+" in "+place.name, place.put(api.EnumDef{Name: "E", Ranges: l}), -1<<31 <= lo && lo <= hi && hi <= 1<<31)
			}
		}
	}
}

// P5.1: each card, with and without a key, in and out of a oneof.
func TestCards(t *testing.T) {
	for _, card := range []int{-1 << 63, -1, 0, api.One, api.Opt, api.Rep, api.Map, 5, 1<<32 + 1, 1<<63 - 1} {
		for _, key := range []string{"", "string", ".k"} {
			for _, oneof := range []int{-1 << 63, -2, -1, 0, 1, 2, 3, 1 << 32, 1<<63 - 1} {
				for oneofs := range 4 {
					f := api.FieldDef{Name: "a", Type: "T", Key: key, Card: card, Num: 1, Oneof: oneof}
					isCard := card >= api.One && card <= api.Map && (key != "") == (card == api.Map)
					isOneof := oneof == -1 || oneof >= 0 && oneof < oneofs && card == api.Opt
					valid(t, fmt.Sprintf("card %d, key %q, oneof %d of %d", card, key, oneof, oneofs), nested(0, oneField(f, oneofs)), isCard && isOneof)
				}
			}
		}
	}
}

// oneofsOf is a message with fields in these oneofs, of three.
func oneofsOf(l ...int) api.MsgDef {
	m := api.MsgDef{Name: "M", Oneofs: []api.Text{{S: "x"}, {S: "y"}, {S: "z"}}}
	for i, oneof := range l {
		m.Fields = append(m.Fields, api.FieldDef{Name: fmt.Sprint("f", i), Type: "T", Card: api.Opt, Num: i, Oneof: oneof})
	}
	return m
}

// P5.1: the fields of a oneof are consecutive, in the order of the oneofs.
func TestOrderOfOneofs(t *testing.T) {
	for _, c := range []struct {
		want bool
		l    []int
	}{
		{true, []int{0, 0, 1, 2, 2}}, {true, []int{-1, 1, -1, 2, -1}}, {true, []int{2}}, {true, []int{0, 2}}, {true, []int{-1, -1}}, {true, nil},
		{false, []int{0, -1, 0}}, {false, []int{1, 0}}, {false, []int{2, -1, 1}}, {false, []int{0, 1, 0}}, {false, []int{0, 1, 1, 2, 1}}, {false, []int{1, 1, -1, 0, 0}},
	} {
		for _, place := range messagePlaces() {
			valid(t, fmt.Sprint("oneofs ", c.l, " in ", place.name), place.put(oneofsOf(c.l...)), c.want)
		}
	}
	eachSequence(6, func(l []int) {
		valid(t, fmt.Sprint("oneofs ", l), nested(0, oneofsOf(l...)), isOrder(l))
	})
}

// eachSequence calls f for all lists of up to that many oneofs, of three, or of
// none.
func eachSequence(size int, f func(l []int)) {
	var next func(l []int)
	next = func(l []int) {
		f(l)
		for oneof := -1; oneof < 3 && len(l) < size; oneof++ {
			next(append(l[:len(l):len(l)], oneof))
		}
	}
	next(nil)
}

// isOrder looks at all pairs of fields: no oneof has a field ahead of one in an
// earlier oneof, and between two in the same one there are no others.
func isOrder(l []int) bool {
	for i := range l {
		for j := i + 1; j < len(l); j++ {
			if l[i] < 0 || l[j] < 0 {
				continue
			}
			if l[i] > l[j] || l[i] == l[j] && l[j-1] != l[i] {
				return false
			}
		}
	}
	return true
}

// P5.1: messages are at most 8 deep, each of them, whatever they have in them.
func TestDepth(t *testing.T) {
	accepts(t, "8 deep", nested(api.MaxDeep-1, api.MsgDef{Name: "M"}))
	for _, others := range []int{api.MaxDeep, api.MaxDeep + 1, 100, 1<<16 - 10} {
		refuses(t, "too deep", nested(others, api.MsgDef{Name: "M"}), api.ErrArg)
	}
	deep, tooDeep := nested(api.MaxDeep-1, api.MsgDef{Name: "M"}).Msgs[0], nested(api.MaxDeep, api.MsgDef{Name: "M"}).Msgs[0]
	accepts(t, "8 deep twice", api.Tree{Msgs: []api.MsgDef{deep, deep}})
	refuses(t, "too deep in the second one", api.Tree{Msgs: []api.MsgDef{deep, tooDeep}}, api.ErrArg)
	refuses(t, "too deep in the first one", api.Tree{Msgs: []api.MsgDef{tooDeep, deep}}, api.ErrArg)
	refuses(t, "too deep in a second inner one", api.Tree{Msgs: []api.MsgDef{{Name: "M", Msgs: []api.MsgDef{{Name: "N"}, deep}}}}, api.ErrArg)
	accepts(t, "an enum in the deepest one", nested(api.MaxDeep-1, api.MsgDef{Name: "M", Enums: []api.EnumDef{{Name: "E"}}}))
}
