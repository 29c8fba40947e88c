package files_test

import (
	"slices"
	"strings"
	"testing"

	"signetry/api"
	"signetry/files"
	"signetry/print"
)

// P6.2: there are at most 16 units.
func TestCountOfUnits(t *testing.T) {
	for count := range 19 {
		if l := units(numbered(count)...); count <= api.MaxFiles {
			accepts(t, "units without imports", l)
		} else {
			refuses(t, "too many units", l)
		}
	}
	refuses(t, "too many units that import", units("a: b", "b:", "c:", "d:", "e:", "f:", "g:", "h:", "i:", "j:", "k:", "l:", "m:", "n:", "o:", "p:", "q:"))
	accepts(t, "nil", nil)
	accepts(t, "no units", []api.Unit{})
}

// P6.2: the paths of units are paths.
func TestPathsOfUnits(t *testing.T) {
	for _, path := range somePaths() {
		accepts(t, path, []api.Unit{{Path: path}})
	}
	for _, path := range noPaths() {
		refuses(t, "a path that is none", []api.Unit{{Path: path}})
		for i, l := range [][]api.Unit{units("a:", "b:"), units("A:", "Z:")} {
			l[0].Path = path
			if slices.SortFunc(l, func(a, b api.Unit) int { return strings.Compare(a.Path, b.Path) }); l[0].Path == l[1].Path {
				t.Fatal(i, path)
			}
			refuses(t, "a path that is none", l)
		}
	}
}

// P6.2: the paths of units increase strictly, bytewise.
func TestPathsIncrease(t *testing.T) {
	accepts(t, "paths by bytes", units("-:", ".:", "/:", "0:", "00:", "1:", "A:", "B:", "_:", "a:", "a-:", "a.:", "a/:", "a0:", "aa:", "b:"))
	for _, of := range [][]string{{"a: b", "b:", "c:"}, {"a:", "b: a", "c: b a"}, {"a:", "b:"}, {"a:", "b:", "c:", "d: +c"}} {
		l := units(of...)
		accepts(t, "in order", l)
		for i := range l {
			for j := range i {
				other := slices.Clone(l)
				other[i], other[j] = other[j], other[i]
				refuses(t, "in another order", other)
			}
			refuses(t, "twice", slices.Insert(slices.Clone(l), i, l[i]))
			refuses(t, "twice, not side by side", slices.Insert(slices.Clone(l), (i+2)%(len(l)+1), l[i]))
		}
	}
	refuses(t, "the same path with another tree", units("a:", "b: a", "b:"))
}

// P6.2: of all orders of four units, of which some may be there twice or not at
// all, only those are valid in which the paths increase.
func TestEveryOrder(t *testing.T) {
	for _, lines := range sequences([]string{"a:", "b:", "c:", "d:"}, 4) {
		isIncreasing := slices.IsSorted(lines) && len(slices.Compact(slices.Clone(lines))) == len(lines)
		if l := units(lines...); isIncreasing {
			accepts(t, "increasing paths", l)
		} else {
			refuses(t, "paths that do not increase", l)
		}
	}
}

// P6.2: no two imports of a unit have the same path, public or not.
func TestImportsDiffer(t *testing.T) {
	for _, imports := range []string{"a a", "a +a", "+a a", "+a +a", "a b a", "b a a", "a b b", "a b a b"} {
		refuses(t, imports, units("a:", "b:", "c: "+imports))
		refuses(t, imports, units("a:", "b:", "c: "+imports, "d: c"))
		refuses(t, imports, units("0: "+imports, "a:", "b:"))
	}
	for _, imports := range []string{"a", "+b", "a b", "b a", "b +a", "+b +a"} {
		accepts(t, imports, units("0: "+imports, "a:", "b:"))
	}
}

// P6.2: there is a unit for each import.
func TestImportsAreThere(t *testing.T) {
	for _, imports := range []string{"z", "+z", "a z", "z a", "b +z a", "A", "a.", "aa"} {
		refuses(t, imports, units("a:", "b:", "c: "+imports))
		refuses(t, imports, units("a: "+imports, "b:", "c:"))
		refuses(t, imports, units("a:", "b: "+imports, "c: b"))
		refuses(t, imports, units("a: "+imports))
	}
	accepts(t, "all", units("a:", "b: a z", "z:"))
}

// P6.2: no unit imports itself, directly or indirectly, publicly or not.
func TestUnitsInCircles(t *testing.T) {
	refuses(t, "itself", units("a: a"))
	refuses(t, "itself", units("a:", "b: a +b", "c:"))
	refuses(t, "two", units("a: b", "b: a"))
	refuses(t, "two", units("a:", "b: a d", "c: a", "d: c +b"))
	refuses(t, "three", units("a: b", "b: c", "c: a"))
	refuses(t, "three", units("a: +b", "b: +c", "c: +a", "d: a", "e:"))
	refuses(t, "behind others", units("a: b", "b: c", "c: d", "d: c"))
	for count := 1; count <= api.MaxFiles; count++ {
		paths := numbered(count)
		var lines []string
		for i, path := range paths {
			lines = append(lines, path+": "+paths[(i+1)%count])
		}
		refuses(t, "a great circle", units(lines...))
		lines[count-1] = paths[count-1]
		accepts(t, "a chain", units(lines...))
	}
}

// P6.2: print.Check accepts the tree of each unit.
func TestTreesOfUnits(t *testing.T) {
	good := parsed([]api.Source{{Path: "r", Text: rich}})[0].Tree
	accepts(t, "rich", []api.Unit{{Path: "a"}, {Path: "r", Tree: good}})
	for what, of := range map[string]api.Tree{
		"package":      {Package: "a."},
		"message":      {Msgs: []api.MsgDef{{}}},
		"enum":         {Enums: []api.EnumDef{{Name: "1"}}},
		"service":      {Svcs: []api.SvcDef{{Name: "é"}}},
		"field":        {Msgs: []api.MsgDef{{Name: "M", Fields: []api.FieldDef{{Name: "a", Type: "int32", Num: 1, Oneof: -1}}}}},
		"17 imports":   {Imports: make([]api.Import, api.MaxFiles+1)},
		"no path":      {Imports: []api.Import{{Path: "a b"}}},
		"long text":    {Msgs: []api.MsgDef{{Name: "M", Fields: []api.FieldDef{{Name: "a", Type: "int32", Card: api.One, Num: 1, Oneof: -1, Json: strings.Repeat("k", api.MaxText)}}}}},
		"129 messages": {Msgs: slices.Repeat([]api.MsgDef{{Name: "M"}}, api.MaxMsgs+1)},
	} {
		if print.Check(of) == api.OK {
			t.Errorf("%s: print.Check accepts the tree", what)
		}
		for i := range 3 {
			l := units("a:", "b: a", "c: b")
			l[i].Tree = of
			refuses(t, what, l)
		}
		refuses(t, what, []api.Unit{{Path: "a", Tree: of}})
	}
}

// P6.2: offsets do not matter, and nil and empty lists are the same.
func TestStrangeOffsets(t *testing.T) {
	l := units("a: b +c", "b: +d", "c:", "d:")
	for i := range l {
		for j := range l[i].Tree.Imports {
			l[i].Tree.Imports[j].At = []int{-1 << 63, 1<<63 - 1, 0, -7}[(i+j)%4]
		}
	}
	l[3].Tree = api.Tree{Imports: []api.Import{}, Msgs: []api.MsgDef{}, Enums: []api.EnumDef{}, Svcs: []api.SvcDef{}}
	accepts(t, "strange offsets", l)
	sees(t, l, "a", "a b c d")
}

// P6.2: a unit sees itself, what it imports, publicly or not, and what that
// imports publicly, but nothing else.
func TestWhatIsSeen(t *testing.T) {
	for want, lines := range map[string][]string{
		"a":         {"a:", "b:", "c: a"},
		"a b":       {"a: b", "b: c", "c: +d", "d:"},
		"a b ":      {"a: +b", "b: c", "c: +d", "d:"},
		"a b c":     {"a: b", "b: +c d", "c: d", "d:"},
		" a b c":    {"a: +b", "b: +c", "c: d", "d:"},
		"a b c d":   {"a: b", "b: +c", "c: +d", "d:"},
		"a b d":     {"a: b d", "b: c", "c: +d", "d:"},
		"a b c e":   {"a: b", "b: +c", "c: d +e", "d:", "e:", "f: +d"},
		"a b c d e": {"a: b", "b: +c", "c: +d", "d: +e", "e: f", "f:"},
		"a c d":     {"a: c", "b: +a", "c: +d", "d:"},
		"a b d e":   {"a: b d", "b: c", "c:", "d: +e", "e:"},
		"a  b c d":  {"a: +b c", "b: d", "c: +d", "d: e", "e:"},
	} {
		l := units(lines...)
		sees(t, l, "a", want)
		accepts(t, want, l)
	}
}

// P6.2: a path of no unit sees nothing, even if it is a path, or imported.
func TestPathsOfNoUnit(t *testing.T) {
	l := units("a: +b", "b:")
	for _, path := range append(noPaths(), "c", "A", "a/", "aa", "ab", "a b") {
		if got := files.Sees(l, path); len(got) != 0 {
			t.Errorf("%.100q sees %v", path, got)
		}
		if got := files.Sees(nil, path); len(got) != 0 {
			t.Errorf("of no units, %.100q sees %v", path, got)
		}
	}
	for _, path := range []string{"a", "b", "z"} {
		if got := files.Sees(units("a: z", "b:"), path); len(got) != 0 {
			t.Errorf("of units that are not valid, %s sees %v", path, got)
		}
	}
}

// P6.2: of the paths that may come next, the smallest one comes, even if a
// greater one could have come for longer.
func TestWhichComesNext(t *testing.T) {
	for want, lines := range map[string][]string{
		"a b c":         {"a:", "b:", "c:"},
		" a b c":        {"a:", "b: a", "c: b a"},
		"c b a":         {"a: b", "b: c", "c:"},
		"c a b":         {"a: c", "b: c", "c:"},
		"b a c":         {"a: b", "b:", "c:"},
		"b d a c":       {"a: d", "b:", "c: a", "d: b"},
		"a d b c e":     {"a:", "b: d", "c: b", "d:", "e: a"},
		"c d a b":       {"a: d", "b: +d", "c:", "d: c"},
		"b c a d":       {"a: c b", "b:", "c:", "d: a"},
		"- . / 0 A _ a": {"-:", ".:", "/:", "0:", "A:", "_:", "a:"},
		"a/b a. a- Z":   {"Z: a-", "a-: a.", "a.: a/b", "a/b:"},
	} {
		l := units(lines...)
		ordered(t, l, want)
		accepts(t, want, l)
	}
	ordered(t, nil, "")
	for _, lines := range [][]string{{"a: a"}, {"a: z"}, {"b:", "a:"}, {"a: b b", "b:"}, {"a:", "a:"}} {
		ordered(t, units(lines...), "")
	}
}
