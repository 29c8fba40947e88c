package build_test

import (
	"fmt"
	"slices"
	"strings"
	"testing"

	"signetry/api"
	"signetry/build"
)

// whole is a valid set with something of everything: a imports b, which imports c
// publicly; nobody imports d.
func whole() api.Set {
	return api.Set{
		Files: []api.File{
			{Path: "a", Package: "p", Imports: []api.Import{{Path: "b"}}},
			{Path: "b", Imports: []api.Import{{Path: "c", Public: true}}},
			{Path: "c", Package: "p.q"},
			{Path: "d", Package: "p"},
		},
		Msgs: []api.Msg{
			{Path: "b", Name: "B"},
			{Path: "d", Name: "p.D", Fields: []api.Field{{Name: "a", Json: "a", Num: 1, Type: 11, Ref: "p.D", Card: 3, Oneof: -1}}},
			{
				Path: "a", Name: "p.M",
				Fields: []api.Field{
					{Name: "a", Json: "b", Num: 1, Type: 5, Card: 1, Oneof: -1},
					{Name: "b", Json: "a", Num: 3, Type: 11, Ref: "p.q.C", Card: 2, Oneof: 0},
					{Name: "c", Json: "c", Num: 4, Type: 14, Ref: "p.M.E", Card: 1, Oneof: -1},
					{Name: "d", Json: "d", Num: 5, Type: 9, Card: 4, Key: 8, Oneof: -1},
					{Name: "e", Json: "e", Num: 6, Type: 14, Ref: "p.q.F", Card: 2, Oneof: 0},
				},
				Oneofs: []string{"o"},
				Ranges: [][2]int{{2, 2}, {10, 20}},
				Names:  []string{"x", "y"},
			},
			{Path: "a", Name: "p.M.N"},
			{Path: "c", Name: "p.q.C"},
		},
		Enums: []api.Enum{
			{
				Path: "a", Name: "p.M.E",
				Values: []api.Value{{Name: "Z", Num: 0}, {Name: "A", Num: 5}, {Name: "B", Num: -5}},
				Ranges: [][2]int{{-9, -7}, {7, 7}},
				Names:  []string{"x", "y"},
			},
			{Path: "c", Name: "p.q.F", Values: []api.Value{{Name: "Z", Num: 0}}},
		},
		Svcs: []api.Svc{
			{Path: "a", Name: "p.S", Rpcs: []api.Rpc{{Name: "F", In: "p.M", Out: "p.q.C"}, {Name: "G", In: "B", Out: "p.M.N"}}},
			{Path: "d", Name: "p.T"},
		},
	}
}

// change is a change of the whole set, and whether it stays valid.
type change struct {
	what    string
	isValid bool
	change  func(s *api.Set)
}

// changes checks the whole set after each change by itself.
func changes(t *testing.T, l []change) {
	t.Helper()
	for _, c := range l {
		s := whole()
		if c.change(&s); deepEqual(s, whole()) {
			t.Errorf("%s: nothing is changed", c.what)
		}
		valid(t, c.what, s, c.isValid)
	}
}

// valid checks a set, also in the second way.
func valid(t *testing.T, what string, s api.Set, want bool) {
	t.Helper()
	e := build.Check(s)
	if want && e != api.OK || !want && e != api.ErrArg {
		t.Errorf("%s: %d", what, e)
	}
	if found := secondWrong(s); want == (len(found) > 0) {
		t.Errorf("%s: the second way finds %q", what, found)
	}
}

// P9.2: sets that are valid.
func TestValidSets(t *testing.T) {
	valid(t, "whole", whole(), true)
	valid(t, "empty", api.Set{}, true)
	valid(t, "empty lists", api.Set{Files: []api.File{}, Msgs: []api.Msg{}, Enums: []api.Enum{}, Svcs: []api.Svc{}}, true)
	valid(t, "one file", api.Set{Files: []api.File{{Path: "a"}}}, true)
	valid(t, "empty lists inside", api.Set{
		Files: []api.File{{Path: "a", Imports: []api.Import{}}},
		Msgs:  []api.Msg{{Path: "a", Name: "M", Fields: []api.Field{}, Oneofs: []string{}, Ranges: [][2]int{}, Names: []string{}}},
		Enums: []api.Enum{{Path: "a", Name: "E", Values: []api.Value{{Name: "Z"}}, Ranges: [][2]int{}, Names: []string{}}},
		Svcs:  []api.Svc{{Path: "a", Name: "S", Rpcs: []api.Rpc{}}},
	}, true)
	valid(t, "a message of no file", api.Set{Files: []api.File{{Path: "a"}}, Msgs: []api.Msg{{Path: "b", Name: "M"}}}, false)
	text := filesOf(whole())
	if s, at, e := build.Build(text, pathsOf(text)); e != api.OK || !build.Same(s, whole()) {
		t.Errorf("%d at %v of %q", e, at, text)
	}
}

// P9.2: files.
func TestFilesOfSets(t *testing.T) {
	chain := func(count int) (l []api.File) {
		for i := range count {
			f := api.File{Path: fmt.Sprintf("f%02d", i)}
			for k := range i {
				f.Imports = append(f.Imports, api.Import{Path: fmt.Sprintf("f%02d", k), Public: k%2 == 0})
			}
			l = append(l, f)
		}
		return l
	}
	valid(t, "16 files, each of which imports all ahead of it", api.Set{Files: chain(16)}, true)
	valid(t, "17 files", api.Set{Files: chain(17)}, false)
	path := func(path string) func(s *api.Set) {
		return func(s *api.Set) { s.Files = append(s.Files, api.File{Path: path}) }
	}
	pkg := func(pkg string) func(s *api.Set) {
		return func(s *api.Set) { s.Files = append(s.Files, api.File{Path: "e", Package: pkg}) }
	}
	imports := func(from int, l ...api.Import) func(s *api.Set) {
		return func(s *api.Set) { s.Files[from].Imports = l }
	}
	full := strings.Repeat("abcdefg.", 15) + "abcdefgh"
	changes(t, []change{
		{"one more file", true, path("e")},
		{"a path of 64 bytes", true, path(strings.Repeat("e", 64))},
		{"a path of 65 bytes", false, path(strings.Repeat("e", 65))},
		{"a path with signs", true, path("e_-./Z9")},
		{"a path with a blank", false, path("e f")},
		{"a path that is no path", false, path("é")},
		{"the same path", false, path("d")},
		{"a path ahead", false, path("cc")},
		{"an empty path", false, func(s *api.Set) { s.Files = append([]api.File{{}}, s.Files...) }},
		{"files that are not in order", false, func(s *api.Set) { s.Files[2], s.Files[3] = s.Files[3], s.Files[2] }},
		{"no file", false, func(s *api.Set) { s.Files = nil }},
		{"a package", true, pkg("x.y_1.Z")},
		{"no package", true, func(s *api.Set) { s.Files = append(s.Files, api.File{Path: "e"}) }},
		{"a package of 128 bytes", true, pkg(full)},
		{"a package of 129 bytes", false, pkg(full + "i")},
		{"a package of a name with 33 bytes", false, pkg(strings.Repeat("x", 33))},
		{"a package that ends with a period", false, pkg("x.")},
		{"a package that begins with a period", false, pkg(".x")},
		{"a package with two periods", false, pkg("x..y")},
		{"a package with a digit", false, pkg("x.1")},
		{"a package that is not that of the names", false, func(s *api.Set) { s.Files[3].Package = "q" }},
		{"no package for names that have one", false, func(s *api.Set) { s.Files[3].Package = "" }},
		{"a package for a name that has none", false, func(s *api.Set) { s.Files[1].Package = "p" }},
		{"one more import", true, imports(0, api.Import{Path: "b"}, api.Import{Path: "c"}, api.Import{Path: "d", Public: true})},
		{"imports in another order", true, imports(0, api.Import{Path: "d"}, api.Import{Path: "b"})},
		{"an import of nothing", false, imports(3, api.Import{Path: "e"})},
		{"an import of no path", false, imports(3, api.Import{})},
		{"an import twice", false, imports(3, api.Import{Path: "a"}, api.Import{Path: "a", Public: true})},
		{"an import behind the start", false, imports(3, api.Import{Path: "a", At: 1})},
		{"an import ahead of the start", false, imports(3, api.Import{Path: "a", At: -1})},
		{"an import of itself", false, imports(3, api.Import{Path: "d"})},
		{"a circle of two files", false, imports(1, api.Import{Path: "c", Public: true}, api.Import{Path: "a"})},
		{"a circle of three files", false, imports(2, api.Import{Path: "a"})},
		{"a long way that is no circle", true, imports(3, api.Import{Path: "a"})},
	})
}

// P9.2: how much a set declares, and in which order.
func TestListsOfSets(t *testing.T) {
	much := func(messages, enums, services int) (s api.Set) {
		s.Files = []api.File{{Path: "a"}}
		for i := range messages {
			s.Msgs = append(s.Msgs, api.Msg{Path: "a", Name: fmt.Sprintf("M%03d", i)})
		}
		for i := range enums {
			s.Enums = append(s.Enums, api.Enum{Path: "a", Name: fmt.Sprintf("E%03d", i), Values: []api.Value{{Name: "Z"}}})
		}
		for i := range services {
			s.Svcs = append(s.Svcs, api.Svc{Path: "a", Name: fmt.Sprintf("S%03d", i)})
		}
		return s
	}
	valid(t, "128 of each", much(128, 128, 128), true)
	valid(t, "129 messages", much(129, 0, 0), false)
	valid(t, "129 enums", much(0, 129, 0), false)
	valid(t, "129 services", much(0, 0, 129), false)
	changes(t, []change{
		{"messages that are not in order", false, func(s *api.Set) { s.Msgs[0], s.Msgs[1] = s.Msgs[1], s.Msgs[0] }},
		{"enums that are not in order", false, func(s *api.Set) { s.Enums[0], s.Enums[1] = s.Enums[1], s.Enums[0] }},
		{"services that are not in order", false, func(s *api.Set) { s.Svcs[0], s.Svcs[1] = s.Svcs[1], s.Svcs[0] }},
		{"a message twice", false, func(s *api.Set) { s.Msgs = slices.Insert(s.Msgs, 0, s.Msgs[0]) }},
		{"an enum twice", false, func(s *api.Set) { s.Enums = slices.Insert(s.Enums, 0, s.Enums[0]) }},
		{"a service twice", false, func(s *api.Set) { s.Svcs = slices.Insert(s.Svcs, 0, s.Svcs[0]) }},
		{"a message twice, in two files", false, func(s *api.Set) { s.Msgs = slices.Insert(s.Msgs, 1, api.Msg{Path: "a", Name: "p.D"}) }},
		{"an enum with the name of a message", false, func(s *api.Set) { s.Enums[1].Path, s.Enums[1].Name = "c", "p.q.C" }},
		{"a service with the name of a message", false, func(s *api.Set) { s.Svcs[0].Name = "p.M" }},
		{"a service with the name of an enum", false, func(s *api.Set) {
			s.Svcs = append(s.Svcs, api.Svc{Path: "c", Name: "p.q.F"})
		}},
		{"a service with another name", true, func(s *api.Set) {
			s.Svcs = append(s.Svcs, api.Svc{Path: "c", Name: "p.q.G"})
		}},
		{"no services", true, func(s *api.Set) { s.Svcs = nil }},
	})
}

// P9.2: names of messages, enums and services, in their files.
func TestNamesOfSets(t *testing.T) {
	message := func(path, name string) func(s *api.Set) {
		return func(s *api.Set) {
			s.Msgs = append(s.Msgs, api.Msg{Path: path, Name: name})
			slices.SortFunc(s.Msgs, func(a, b api.Msg) int { return strings.Compare(a.Name, b.Name) })
		}
	}
	enum := func(path, name string) func(s *api.Set) {
		return func(s *api.Set) {
			s.Enums = append(s.Enums, api.Enum{Path: path, Name: name, Values: []api.Value{{Name: "Z"}}})
			slices.SortFunc(s.Enums, func(a, b api.Enum) int { return strings.Compare(a.Name, b.Name) })
		}
	}
	service := func(path, name string) func(s *api.Set) {
		return func(s *api.Set) {
			s.Svcs = append(s.Svcs, api.Svc{Path: path, Name: name})
			slices.SortFunc(s.Svcs, func(a, b api.Svc) int { return strings.Compare(a.Name, b.Name) })
		}
	}
	for what, add := range map[string]func(path, name string) func(s *api.Set){"message": message, "enum": enum, "service": service} {
		inside := what != "service"
		changes(t, []change{
			{what + " of a package", true, add("a", "p.X")},
			{what + " of no package", true, add("b", "X")},
			{what + " of another package", false, add("a", "q.X")},
			{what + " of a package further in", false, add("a", "p.q.X")},
			{what + " of a package further out", false, add("c", "p.X")},
			{what + " of no package where there is one", false, add("a", "X")},
			{what + " of a package where there is none", false, add("b", "p.X")},
			{what + " of another file", true, add("d", "p.X")},
			{what + " of no file", false, add("e", "p.X")},
			{what + " without a path", false, add("", "p.X")},
			{what + " in a message", inside, add("a", "p.M.X")},
			{what + " in a message in a message", inside, add("a", "p.M.N.X")},
			{what + " in a message of no package", inside, add("b", "B.X")},
			{what + " in a message of another file", false, add("d", "p.M.X")},
			{what + " in a message of a file that imports it", false, add("c", "p.M.X")},
			{what + " in a message of a file that it imports", false, add("a", "B.X")},
			{what + " in a message of a file that it sees", false, add("a", "p.q.C.X")},
			{what + " in no message", false, add("a", "p.X.Y")},
			{what + " in an enum", false, add("a", "p.M.E.X")},
			{what + " in a service", false, add("a", "p.S.X")},
			{what + " without a name", false, add("a", "")},
			{what + " with the name of its package", false, add("a", "p")},
			{what + " with an empty name", false, add("a", "p.")},
			{what + " with a period ahead", false, add("a", ".p.X")},
			{what + " with a name with a digit ahead", false, add("a", "p.1")},
			{what + " with a name with a sign", false, add("a", "p.X-Y")},
			{what + " with a name of 32 bytes", true, add("a", "p."+strings.Repeat("x", 32))},
			{what + " with a name of 33 bytes", false, add("a", "p."+strings.Repeat("x", 33))},
		})
		pkg := strings.Repeat("abcdefg.", 15)
		for i, name := range []string{"abcdefgh", "abcdefghi"} {
			s := api.Set{Files: []api.File{{Path: "a", Package: pkg[:len(pkg)-1]}}}
			add("a", pkg+name)(&s)
			valid(t, what+" with a full name of "+fmt.Sprint(len(pkg+name)), s, i == 0)
		}
	}
	// One package may have the name of a message of another file.
	changes(t, []change{
		{"a package with the name of a message", true, func(s *api.Set) {
			s.Files = append(s.Files, api.File{Path: "e", Package: "p.M"})
			message("e", "p.M.O")(s)
			message("a", "p.M.P")(s)
			message("e", "p.M.O.N")(s)
		}},
		{"two files in one message", false, func(s *api.Set) {
			s.Files = append(s.Files, api.File{Path: "e", Package: "p.M"})
			message("e", "p.M.O")(s)
			message("a", "p.M.O.N")(s)
		}},
	})
}

// P9.2: messages are nested 8 deep, whatever their package is; enums may be in the
// last one.
func TestDepthOfSets(t *testing.T) {
	for _, pkg := range []string{"", "p", "p.q.r"} {
		for deep := 1; deep <= 12; deep++ {
			s := api.Set{Files: []api.File{{Path: "a", Package: pkg}}}
			name := pkg
			for range deep {
				name = strings.TrimPrefix(name+".M", ".")
				s.Msgs = append(s.Msgs, api.Msg{Path: "a", Name: name})
			}
			s.Enums = []api.Enum{{Path: "a", Name: name + ".E", Values: []api.Value{{Name: "Z"}}}}
			valid(t, fmt.Sprintf("%q, %d deep", pkg, deep), s, deep <= 8)
		}
	}
}

// m is the message p.M, e the enum p.M.E, v the service p.S.
func m(s *api.Set) *api.Msg  { return &s.Msgs[2] }
func e(s *api.Set) *api.Enum { return &s.Enums[0] }
func v(s *api.Set) *api.Svc  { return &s.Svcs[0] }

// P9.2: how much a message has.
func TestListsOfMessages(t *testing.T) {
	fields := func(count int) func(s *api.Set) {
		return func(s *api.Set) {
			for i := len(m(s).Fields); i < count; i++ {
				m(s).Fields = append(m(s).Fields, api.Field{Name: fmt.Sprint("f", i), Json: fmt.Sprint("f", i), Num: 100 + i, Type: 5, Card: 1, Oneof: -1})
			}
		}
	}
	oneofs := func(count int) func(s *api.Set) {
		return func(s *api.Set) {
			for i := 1; i < count; i++ {
				m(s).Oneofs = append(m(s).Oneofs, fmt.Sprint("o", i))
				m(s).Fields = append(m(s).Fields, api.Field{Name: fmt.Sprint("f", i), Json: fmt.Sprint("f", i), Num: 100 + i, Type: 5, Card: 2, Oneof: i})
			}
		}
	}
	changes(t, []change{
		{"no fields", false, func(s *api.Set) { m(s).Fields = nil }},
		{"no fields and no oneofs", true, func(s *api.Set) { m(s).Fields, m(s).Oneofs = nil, nil }},
		{"64 fields", true, fields(64)},
		{"65 fields", false, fields(65)},
		{"16 oneofs", true, oneofs(16)},
		{"17 oneofs", false, oneofs(17)},
		{"64 ranges", true, func(s *api.Set) { m(s).Ranges = manyRanges(64) }},
		{"65 ranges", false, func(s *api.Set) { m(s).Ranges = manyRanges(65) }},
		{"64 names", true, func(s *api.Set) { m(s).Names = manyNames(64) }},
		{"65 names", false, func(s *api.Set) { m(s).Names = manyNames(65) }},
	})
}

func manyRanges(count int) (l [][2]int) {
	for i := range count {
		l = append(l, [2]int{1000 + 2*i, 1000 + 2*i})
	}
	return l
}

func manyNames(count int) (l []string) {
	for i := range count {
		l = append(l, fmt.Sprintf("x%03d", i))
	}
	return l
}

// P9.2: numbers, names and keys of fields.
func TestFieldsOfSets(t *testing.T) {
	last := func(f func(x *api.Field)) func(s *api.Set) {
		return func(s *api.Set) { f(&m(s).Fields[4]) }
	}
	number := func(n int) func(s *api.Set) { return last(func(x *api.Field) { x.Num = n }) }
	first := func(n int) func(s *api.Set) { return func(s *api.Set) { m(s).Fields[0].Num = n } }
	name := func(name string) func(s *api.Set) { return last(func(x *api.Field) { x.Name = name }) }
	key := func(key string) func(s *api.Set) { return last(func(x *api.Field) { x.Json = key }) }
	changes(t, []change{
		{"the number 0", false, first(0)},
		{"the number -1", false, first(-1)},
		{"the least number", false, first(-1 << 63)},
		{"the greatest number of a field", true, number(1<<29 - 1)},
		{"one more than the greatest number of a field", false, number(1 << 29)},
		{"the greatest number of all", false, number(1<<63 - 1)},
		{"the number 18999", true, number(18999)},
		{"the number 19000", false, number(19000)},
		{"the number 19500", false, number(19500)},
		{"the number 19999", false, number(19999)},
		{"the number 20000", true, number(20000)},
		{"a number twice", false, number(5)},
		{"a number that is not in order", false, func(s *api.Set) { m(s).Fields[0], m(s).Fields[2] = m(s).Fields[2], m(s).Fields[0] }},
		{"a number ahead of a range", true, number(9)},
		{"the first number of a range", false, number(10)},
		{"a number in a range", false, number(15)},
		{"the last number of a range", false, number(20)},
		{"a number behind a range", true, number(21)},
		{"the number of a range of one", false, first(2)},
		{"a name", true, name("Name_1")},
		{"no name", false, name("")},
		{"a name with a digit ahead", false, name("1a")},
		{"a name with a sign", false, name("a-b")},
		{"a name with a period", false, name("a.b")},
		{"a name of 32 bytes", true, name(strings.Repeat("x", 32))},
		{"a name of 33 bytes", false, name(strings.Repeat("x", 33))},
		{"a keyword as a name", true, name("message")},
		{"the name of a oneof as a name", true, name("o")},
		{"a name twice", false, name("d")},
		{"a name twice, with one between", false, name("a")},
		{"a reserved name", false, name("x")},
		{"the last reserved name", false, name("y")},
		{"a key", true, key("Key_1")},
		{"no key", false, key("")},
		{"a key with a digit ahead", true, key("1a")},
		{"a key with a sign", false, key("a-b")},
		{"a key that is not UTF-8", false, key("\xff")},
		{"a key of 32 bytes", true, key(strings.Repeat("1", 32))},
		{"a key of 33 bytes", false, key(strings.Repeat("1", 33))},
		{"a key twice", false, key("d")},
		{"a key twice, with some between", false, key("b")},
		{"a key that is a reserved name", false, key("x")},
		{"a key that is the last reserved name", false, key("y")},
	})
}

// P9.2: each type, with each card and each key.
func TestTypesOfSets(t *testing.T) {
	for n := -2; n < 22; n++ {
		for card := -1; card < 7; card++ {
			for _, ref := range []string{"", "p.M", "p.M.N", "p.q.C", "B", "p.D", "p.M.E", "p.q.F", "p.S", "M", ".p.M", "p", "p.X", "p.M.", "C"} {
				s := whole()
				x := &m(&s).Fields[0]
				x.Type, x.Card, x.Ref, x.Key = n, card, ref, map[bool]int{true: 9}[card == 4]
				want := card >= 1 && card <= 4
				switch {
				case n == 11:
					want = want && card != 1 && slices.Contains(strings.Fields("p.M p.M.N p.q.C B"), ref)
				case n == 14:
					want = want && (ref == "p.M.E" || ref == "p.q.F")
				default:
					want = want && n >= 1 && n <= 18 && n != 10 && ref == ""
				}
				valid(t, fmt.Sprintf("%d, %d, %q", n, card, ref), s, want)
			}
		}
	}
	for card := 1; card <= 4; card++ {
		for n := -1; n < 20; n++ {
			s := whole()
			m(&s).Fields[0].Card, m(&s).Fields[0].Key = card, n
			want := n == 0
			if card == 4 {
				want = slices.Contains([]int{3, 4, 5, 6, 7, 8, 9, 13, 15, 16, 17, 18}, n)
			}
			valid(t, fmt.Sprintf("card %d, key %d", card, n), s, want)
		}
	}
	for _, n := range []int{1 << 62, -1 << 63, 1<<32 + 5, 256 + 5, -5} {
		s := whole()
		m(&s).Fields[0].Type = n
		valid(t, "a great type", s, false)
	}
}

// P9.2: what a file sees: itself, what it imports, and what that imports publicly.
func TestSightOfSets(t *testing.T) {
	chain := func(publicly ...bool) api.Set {
		s := api.Set{}
		for i := range 4 {
			path := fmt.Sprint("f", i)
			f := api.File{Path: path}
			if i < 3 {
				f.Imports = []api.Import{{Path: fmt.Sprint("f", i+1), Public: publicly[i]}}
			}
			s.Files = append(s.Files, f)
			s.Msgs = append(s.Msgs, api.Msg{Path: path, Name: fmt.Sprint("M", i)})
			s.Enums = append(s.Enums, api.Enum{Path: path, Name: fmt.Sprint("N", i), Values: []api.Value{{Name: "Z"}}})
			s.Svcs = append(s.Svcs, api.Svc{Path: path, Name: fmt.Sprint("S", i)})
		}
		return s
	}
	for bits := range 8 {
		publicly := []bool{bits&1 > 0, bits&2 > 0, bits&4 > 0}
		for from := range 4 {
			for to := range 4 {
				isSeen := to >= from
				for i := from + 1; i < to; i++ {
					isSeen = isSeen && publicly[i]
				}
				what := fmt.Sprintf("%v, from %d to %d", publicly, from, to)
				s := chain(publicly...)
				s.Msgs[from].Fields = []api.Field{{Name: "a", Json: "a", Num: 1, Type: 11, Ref: fmt.Sprint("M", to), Card: 2, Oneof: -1}}
				valid(t, what, s, isSeen)
				s = chain(publicly...)
				s.Msgs[from].Fields = []api.Field{{Name: "a", Json: "a", Num: 1, Type: 14, Ref: fmt.Sprint("N", to), Card: 4, Key: 9, Oneof: -1}}
				valid(t, what, s, isSeen)
				s = chain(publicly...)
				s.Svcs[from].Rpcs = []api.Rpc{{Name: "F", In: fmt.Sprint("M", to), Out: fmt.Sprint("M", from)}}
				valid(t, what, s, isSeen)
				s.Svcs[from].Rpcs = []api.Rpc{{Name: "F", In: fmt.Sprint("M", from), Out: fmt.Sprint("M", to)}}
				valid(t, what, s, isSeen)
			}
		}
	}
}

// P9.2: oneofs, and fields in them.
func TestOneofsOfSets(t *testing.T) {
	in := func(field, oneof int) func(s *api.Set) {
		return func(s *api.Set) { m(s).Fields[field].Oneof = oneof }
	}
	// Each other oneof gets a field of its own.
	oneofs := func(names ...string) func(s *api.Set) {
		return func(s *api.Set) {
			m(s).Oneofs = names
			for i := 1; i < len(names); i++ {
				m(s).Fields = append(m(s).Fields, api.Field{Name: fmt.Sprint("f", i), Json: fmt.Sprint("f", i), Num: 100 + i, Type: 5, Card: 2, Oneof: i})
			}
		}
	}
	changes(t, []change{
		{"a field of no oneof", true, in(4, -1)},
		{"the oneof -2", false, in(4, -2)},
		{"the least oneof", false, in(4, -1<<63)},
		{"the oneof 1 of one", false, in(4, 1)},
		{"the greatest oneof", false, in(4, 1<<63-1)},
		{"One in a oneof", false, in(0, 0)},
		{"a map in a oneof", false, in(3, 0)},
		{"Rep in a oneof", false, func(s *api.Set) { m(s).Fields[4].Card = 3 }},
		{"One in the oneof", false, func(s *api.Set) { m(s).Fields[4].Card = 1 }},
		{"Opt in no oneof", true, in(1, -1)},
		{"a oneof without fields", false, func(s *api.Set) { m(s).Fields[1].Oneof, m(s).Fields[4].Oneof = -1, -1 }},
		{"a second oneof without fields", false, func(s *api.Set) { m(s).Oneofs = []string{"o", "p"} }},
		{"a first oneof without fields", false, func(s *api.Set) {
			m(s).Oneofs, m(s).Fields[1].Oneof, m(s).Fields[4].Oneof = []string{"o", "p"}, 1, 1
		}},
		{"two oneofs, in turn", true, func(s *api.Set) {
			m(s).Oneofs, m(s).Fields[1].Oneof, m(s).Fields[4].Oneof = []string{"p", "o"}, 1, 0
		}},
		{"no oneofs", false, oneofs()},
		{"two oneofs", true, oneofs("o", "O")},
		{"oneofs that are not in order", true, oneofs("z", "b", "a")},
		{"a oneof twice", false, oneofs("o", "o")},
		{"a oneof twice, with one between", false, oneofs("o", "p", "o")},
		{"a oneof with the name of a field", true, oneofs("a")},
		{"a oneof with a reserved name", true, oneofs("x")},
		{"a oneof without a name", false, oneofs("")},
		{"a oneof with a digit ahead", false, oneofs("1")},
		{"a oneof with a period", false, oneofs("o.p")},
		{"a oneof of 32 bytes", true, oneofs(strings.Repeat("o", 32))},
		{"a oneof of 33 bytes", false, oneofs(strings.Repeat("o", 33))},
	})
}

// reservedChanges is changes of what a message, or an enum, reserves: with least
// and most as the ends of all numbers, and others that are not used.
func reservedChanges(least, most int, ranges func(l ...[2]int) func(s *api.Set), names func(l ...string) func(s *api.Set)) []change {
	return []change{
		{"no ranges", true, ranges()},
		{"the first number", true, ranges([2]int{least, least})},
		{"a number ahead of the first one", false, ranges([2]int{least - 1, least})},
		{"a number ahead of the first one only", false, ranges([2]int{least - 1, least - 1})},
		{"the last number", true, ranges([2]int{most, most})},
		{"a range up to the last number", true, ranges([2]int{1000, most})},
		{"a number behind the last one", false, ranges([2]int{1000, most + 1})},
		{"a number behind the last one only", false, ranges([2]int{most + 1, most + 1})},
		{"the greatest number", false, ranges([2]int{1000, 1<<63 - 1})},
		{"the least number", false, ranges([2]int{-1 << 63, least})},
		{"ranges that touch", true, ranges([2]int{1000, 1001}, [2]int{1002, 1005}, [2]int{1006, 1006})},
		{"ranges that overlap", false, ranges([2]int{1000, 1002}, [2]int{1002, 1005})},
		{"a range in another one", false, ranges([2]int{1000, 1009}, [2]int{1002, 1005})},
		{"a range in the one ahead of the last one", false, ranges([2]int{1000, 1009}, [2]int{1011, 1015}, [2]int{1012, 1012})},
		{"a range twice", false, ranges([2]int{1000, 1002}, [2]int{1000, 1002})},
		{"ranges that are not in order", false, ranges([2]int{1002, 1005}, [2]int{1000, 1001})},
		{"the last number, then the first one", false, ranges([2]int{1000, most}, [2]int{least, least})},
		{"a range backwards", false, ranges([2]int{1001, 1000})},
		{"a range backwards behind another one", false, ranges([2]int{1000, 1005}, [2]int{1010, 1007})},
		{"numbers that no field has", true, ranges([2]int{18999, 20000})},
		{"no names", true, names()},
		{"one name", true, names("r")},
		{"names in order", true, names("C", "D", "_", "r", "r1", "s")},
		{"names that are not in order", false, names("r", "C")},
		{"a name twice", false, names("r", "r")},
		{"an empty name", false, names("")},
		{"an empty name, and others", false, names("", "r")},
		{"a name with a digit ahead", false, names("1")},
		{"a name with a period", false, names("p.r")},
		{"a name with a sign, behind others", false, names("p", "p-r")},
		{"a name of 32 bytes", true, names(strings.Repeat("r", 32))},
		{"a name of 33 bytes", false, names(strings.Repeat("r", 33))},
		{"keywords", true, names("message", "option", "reserved")},
	}
}

// P9.2: what messages and enums reserve.
func TestReservedOfSets(t *testing.T) {
	changes(t, reservedChanges(1, 1<<29-1,
		func(l ...[2]int) func(s *api.Set) {
			return func(s *api.Set) { m(s).Fields[0].Num, m(s).Ranges = 2, l }
		},
		func(l ...string) func(s *api.Set) { return func(s *api.Set) { m(s).Names = l } }))
	changes(t, reservedChanges(-1<<31, 1<<31-1,
		func(l ...[2]int) func(s *api.Set) { return func(s *api.Set) { e(s).Ranges = l } },
		func(l ...string) func(s *api.Set) { return func(s *api.Set) { e(s).Names = l } }))
	changes(t, []change{
		{"ranges of an enum on both sides of 0", true, func(s *api.Set) { e(s).Ranges = [][2]int{{-4, -1}, {1, 4}} }},
		{"ranges of an enum that are not in order", false, func(s *api.Set) { e(s).Ranges = [][2]int{{-1, -1}, {-3, -2}} }},
		{"64 ranges", true, func(s *api.Set) { e(s).Ranges = manyRanges(64) }},
		{"65 ranges", false, func(s *api.Set) { e(s).Ranges = manyRanges(65) }},
		{"64 names", true, func(s *api.Set) { e(s).Names = manyNames(64) }},
		{"65 names", false, func(s *api.Set) { e(s).Names = manyNames(65) }},
	})
}

// P9.2: values of enums.
func TestEnumsOfSets(t *testing.T) {
	values := func(count int) func(s *api.Set) {
		return func(s *api.Set) {
			for i := len(e(s).Values); i < count; i++ {
				e(s).Values = append(e(s).Values, api.Value{Name: fmt.Sprint("V", i), Num: 100 + i})
			}
		}
	}
	number := func(at, n int) func(s *api.Set) { return func(s *api.Set) { e(s).Values[at].Num = n } }
	name := func(name string) func(s *api.Set) { return func(s *api.Set) { e(s).Values[2].Name = name } }
	changes(t, []change{
		{"no values", false, func(s *api.Set) { e(s).Values = nil }},
		{"one value", true, func(s *api.Set) { e(s).Values = e(s).Values[:1] }},
		{"one other value", false, func(s *api.Set) { e(s).Values = e(s).Values[1:] }},
		{"64 values", true, values(64)},
		{"65 values", false, values(65)},
		{"a first value that is not 0", false, number(0, 1)},
		{"a zero that is not the first value", false, func(s *api.Set) { e(s).Values[0], e(s).Values[1] = e(s).Values[1], e(s).Values[0] }},
		{"values that are not in order", true, func(s *api.Set) { e(s).Values[1], e(s).Values[2] = e(s).Values[2], e(s).Values[1] }},
		{"the least number of a value", true, number(2, -1<<31)},
		{"one less than the least number of a value", false, number(2, -1<<31-1)},
		{"the greatest number of a value", true, number(2, 1<<31-1)},
		{"one more than the greatest number of a value", false, number(2, 1<<31)},
		{"the least number", false, number(2, -1<<63)},
		{"the greatest number", false, number(2, 1<<63-1)},
		{"zero twice", false, number(2, 0)},
		{"a number twice", false, number(2, 5)},
		{"a number ahead of a range", true, number(2, -10)},
		{"the first number of a range", false, number(2, -9)},
		{"a number in a range", false, number(2, -8)},
		{"the last number of a range", false, number(2, -7)},
		{"a number behind a range", true, number(2, -6)},
		{"the number of a range of one", false, number(2, 7)},
		{"a zero that is reserved", false, func(s *api.Set) { e(s).Ranges = [][2]int{{0, 0}} }},
		{"a name", true, name("name_1")},
		{"no name", false, name("")},
		{"a name with a digit ahead", false, name("1a")},
		{"a name with a period", false, name("a.b")},
		{"a name of 32 bytes", true, name(strings.Repeat("x", 32))},
		{"a name of 33 bytes", false, name(strings.Repeat("x", 33))},
		{"the name reserved", false, name("reserved")},
		{"the name option", false, name("option")},
		{"another keyword", true, name("message")},
		{"a capital keyword", true, name("Option")},
		{"a name twice", false, name("A")},
		{"the name of the first value", false, name("Z")},
		{"a reserved name", false, name("x")},
		{"the last reserved name", false, name("y")},
		{"no values of the last enum", false, func(s *api.Set) { s.Enums[1].Values = []api.Value{} }},
	})
}

// P9.2: methods of services.
func TestServicesOfSets(t *testing.T) {
	methods := func(count int) func(s *api.Set) {
		return func(s *api.Set) {
			for i := len(v(s).Rpcs); i < count; i++ {
				v(s).Rpcs = append(v(s).Rpcs, api.Rpc{Name: fmt.Sprint("F", i), In: "p.M", Out: "p.M"})
			}
		}
	}
	name := func(name string) func(s *api.Set) { return func(s *api.Set) { v(s).Rpcs[1].Name = name } }
	changes(t, []change{
		{"no methods", true, func(s *api.Set) { v(s).Rpcs = nil }},
		{"64 methods", true, methods(64)},
		{"65 methods", false, methods(65)},
		{"methods that are not in order", true, func(s *api.Set) { v(s).Rpcs[0], v(s).Rpcs[1] = v(s).Rpcs[1], v(s).Rpcs[0] }},
		{"a name", true, name("name_1")},
		{"no name", false, name("")},
		{"a name with a digit ahead", false, name("1a")},
		{"a name with a period", false, name("a.b")},
		{"a name of 32 bytes", true, name(strings.Repeat("x", 32))},
		{"a name of 33 bytes", false, name(strings.Repeat("x", 33))},
		{"a keyword", true, name("option")},
		{"a name twice", false, name("F")},
	})
	for _, ref := range strings.Split(",p.M,p.M.N,p.q.C,B,p.D,p.M.E,p.q.F,p.S,M,.p.M,p,p.X", ",") {
		isSeen := slices.Contains(strings.Fields("p.M p.M.N p.q.C B"), ref)
		for i := range 2 {
			s := whole()
			v(&s).Rpcs[i].In = ref
			valid(t, "takes "+ref, s, isSeen)
			s = whole()
			v(&s).Rpcs[i].Out = ref
			valid(t, "returns "+ref, s, isSeen)
		}
	}
}
