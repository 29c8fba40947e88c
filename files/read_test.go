package files_test

import (
	"fmt"
	"slices"
	"strings"
	"testing"

	"signetry/api"
	"signetry/tree"
)

// rich is a file that has something of everything, and imports nothing.
const rich = `syntax = "proto3"; // all
package p.q;
enum E { A = 0; B = -5; reserved -9 to -7; reserved "x"; }
message M { optional int32 a = 1 [json_name = "k"]; map<string, .p.q.M> m = 2; oneof o { E d = 3; } message N { } reserved 5 to max; }
service S { rpc C(M) returns (.p.q.M.N) { } }
`

// paths that are none, and some that are.
func noPaths() []string {
	return []string{"", "a b", "a\\b", "é", "a\x00", "\xff", "a:b", "a\n", " ", "a@", "a+", strings.Repeat("p", api.MaxPath+1), strings.Repeat("p", 1<<20)}
}

func somePaths() []string {
	return []string{"a", "Z", "0", "/", ".", "..", "-", "_", "a/b.proto", "A-b_c.d/e", strings.Repeat("p", api.MaxPath)}
}

// P6.1: the sources are at most 16, whether or not they are required.
func TestCountOfSources(t *testing.T) {
	for count := range 19 {
		l := sources(numbered(count)...)
		switch {
		case count == 0:
			fails(t, l, "f00", api.ErrMissing, "f00", 0)
		case count <= api.MaxFiles:
			reads(t, l, "f00", "f00")
			reads(t, l, strings.Join(numbered(count), " "), strings.Join(numbered(count), " "))
		default:
			fails(t, l, "f00", api.ErrArg, "", 0)
			fails(t, l, "z", api.ErrArg, "", 0)
		}
	}
}

// P6.1: the roots are 1 to 16, whether or not they are different, and there.
func TestCountOfRoots(t *testing.T) {
	l := sources("a:", "b: c", "c: d")
	for count := range 19 {
		roots, noRoots := slices.Repeat([]string{"a"}, count), slices.Repeat([]string{"z"}, count)
		if count >= 1 && count <= api.MaxFiles {
			reads(t, l, strings.Join(roots, " "), "a")
			failsFor(t, l, noRoots, api.ErrMissing, "z", 0)
			failsFor(t, l, append(slices.Clone(roots[1:]), "b"), api.ErrMissing, "c", 22)
		} else {
			failsFor(t, l, roots, api.ErrArg, "", 0)
			failsFor(t, l, noRoots, api.ErrArg, "", 0)
		}
	}
	failsFor(t, nil, nil, api.ErrArg, "", 0)
	failsFor(t, l, []string{}, api.ErrArg, "", 0)
}

// P6.1: the paths of all sources are paths, even of those that are not required.
func TestPathsOfSources(t *testing.T) {
	for _, path := range somePaths() {
		for i := range 3 {
			l := slices.Insert(sources("f0:", "f1:"), i, api.Source{Path: path, Text: head})
			reads(t, l, "f0", "f0")
			reads(t, l, path, path)
			reads(t, l, "f1 "+path, strings.Join(slices.Sorted(slices.Values([]string{"f1", path})), " "))
		}
	}
	for _, path := range noPaths() {
		for i := range 3 {
			l := slices.Insert(sources("f0:", "f1:"), i, api.Source{Path: path, Text: head})
			failsFor(t, l, []string{"f0"}, api.ErrArg, "", 0)
			failsFor(t, l, []string{"z"}, api.ErrArg, "", 0)
			failsFor(t, l, []string{path}, api.ErrArg, "", 0)
		}
	}
}

// P6.1: no two sources have the same path, whatever their texts are.
func TestSamePathTwice(t *testing.T) {
	for count := 2; count <= api.MaxFiles; count++ {
		for i := range count {
			for j := range i {
				l := sources(numbered(count)...)
				l[i].Path = l[j].Path
				failsFor(t, l, []string{"f00"}, api.ErrArg, "", 0)
				l[i].Text = rich
				failsFor(t, l, []string{"f00"}, api.ErrArg, "", 0)
			}
		}
	}
	reads(t, sources("a:", "A:", "a/:", "/a:", "a/a:", "./a:"), "a", "a")
}

// P6.1: roots that are missing, or no paths, are ErrMissing, at 0 in themselves.
func TestMissingRoots(t *testing.T) {
	l := sources("a: b", "b:", "c: d")
	for _, root := range append(noPaths(), "z", "A", "a/", "b:", "d", strings.Repeat("p", api.MaxPath)) {
		failsFor(t, l, []string{root}, api.ErrMissing, root, 0)
		failsFor(t, l, []string{root, root}, api.ErrMissing, root, 0)
		failsFor(t, l, []string{"a", "b", root, "y"}, api.ErrMissing, root, 0)
		failsFor(t, l, []string{root, "y", "a", "c"}, api.ErrMissing, root, 0)
		failsFor(t, l, []string{"b", "c", root}, api.ErrMissing, "c", 22)
	}
}

// P6.1: a root that is there twice, or has been read as an import, is read once.
func TestRootTwice(t *testing.T) {
	l := sources("a: b", "b: c", "c:", "d:")
	for _, roots := range []string{"a", "a a", "a a a", "a b", "b a", "c b a", "a c", "c c a a", "a b c a b c"} {
		reads(t, l, roots, "a b c")
	}
	reads(t, l, "c c", "c")
	reads(t, l, "d b d c", "b c d")
}

// wrongTexts is a text for each error of tree.Parse, at its start, within it, and
// at its end.
func wrongTexts() []string {
	return []string{
		"", ";", "syntax", `syntax="proto2";`, head + "message M{", head + "message M{int32 a=1}", head + `import"a b";`, head + `import"";`,
		head + "@", head + "08", head + `import"`, head + `import"\400";`, head + "message M{int32 a=4294967296;}",
		head + strings.Repeat("message M{", 9), head + strings.Repeat("message M{", 8) + "message {", head + strings.Repeat("message M{}", 129), head + strings.Repeat(`import"f";`, 17),
		head + strings.Repeat(" ", api.MaxText), head + "\xff", head + "package a;package b;",
	}
}

// P6.1: the error of tree.Parse for the text of a root, or of an import, has the
// path of that file, and its offset.
func TestWrongTexts(t *testing.T) {
	found := map[api.Errno]bool{}
	for _, s := range wrongTexts() {
		_, at, e := tree.Parse(s)
		if e == api.OK {
			t.Errorf("%.300q is not wrong", s)
		}
		found[e] = true
		l := append(sources("a: b", "b: c", "d:", "e: d b"), api.Source{Path: "c", Text: s})
		for _, roots := range []string{"c", "b", "a", "d c", "e", "c z", "d d a z"} {
			fails(t, l, roots, e, "c", at)
		}
		reads(t, l, "d", "d")
	}
	if len(found) < 6 {
		t.Errorf("there are only %d errors", len(found))
	}
}

// P6.1: a wrong text is found ahead of all that is wrong with its imports, even
// behind them.
func TestTextAheadOfImports(t *testing.T) {
	for _, imports := range []string{"z", "b b", "a", "c", "wrong", "+z b b a"} {
		start := head + importing(imports)
		l := append(sources("b:", "c: a"), api.Source{Path: "a", Text: start + "?"}, api.Source{Path: "wrong"})
		for _, roots := range []string{"a", "b a", "c", "c a"} {
			fails(t, l, roots, api.ErrWord, "a", len(start))
		}
	}
}

// at is where a path is imported in a source, by the import with that index among
// those of that path.
func at(l []api.Source, in, path string, index int) int {
	s, from := chosen(l, in)[0].Text, 0
	for ; index >= 0; index-- {
		from += strings.Index(s[from:], `"`+path+`"`) + 1
	}
	return from - 1
}

// P6.1: an import that is missing, of a root or of another file, wherever it
// stands among others.
func TestMissingImports(t *testing.T) {
	for _, imports := range []string{"z", "+z", "b z", "z b", "b c +z", "+c z b", "z y", "b z c y"} {
		l := sources("a: "+imports, "b: c", "c:", "d: b a", "e: +d")
		for _, roots := range []string{"a", "d", "e", "c e", "b a z", "e a a"} {
			fails(t, l, roots, api.ErrMissing, "a", at(l, "a", "z", 0))
		}
		reads(t, l, "b", "b c")
	}
	long := strings.Repeat("p", api.MaxPath)
	fails(t, sources("a: "+long), "a", api.ErrMissing, "a", len(head)+6)
	fails(t, sources("a: A", "A/:", "/A:"), "a", api.ErrMissing, "a", len(head)+6)
}

// P6.1: an import that is there twice, publicly or not, is ErrTwice at the second
// one, after all ahead of it have been visited.
func TestImportTwice(t *testing.T) {
	for _, imports := range []string{"b b", "b +b", "+b b", "+b +b", "b c b", "c b b", "b b b", "c b d b c", "b c c2 b z", "b b z"} {
		l := sources("a: "+imports, "b: c", "c:", "c2:", "d: b c", "e: d a z")
		for _, roots := range []string{"a", "b a", "c c a", "e", "a z"} {
			fails(t, l, roots, api.ErrTwice, "a", at(l, "a", "b", 1))
		}
		reads(t, l, "d", "b c d")
	}
	l := sources("a: b c", "b: +d d", "c: d d", "d:")
	fails(t, l, "a", api.ErrTwice, "b", at(l, "b", "d", 1))
	fails(t, l, "c a", api.ErrTwice, "c", at(l, "c", "d", 1))
	reads(t, sources("a: b c d", "b: c d", "c: d", "d:"), "a", "a b c d")
}

// P6.1: of an import that is twice, the first one counts, if that is missing, or
// wrong, or imports what must not be.
func TestFirstOfTwo(t *testing.T) {
	for _, c := range []struct {
		b    string
		e    api.Errno
		path string
		at   int
	}{
		{head, api.ErrTwice, "a", 32},
		{head + `import"c";`, api.ErrTwice, "a", 32},
		{"", api.ErrSyntax, "b", 0},
		{head + "?", api.ErrWord, "b", 16},
		{head + `import"z";`, api.ErrMissing, "b", 22},
		{head + `import"a";`, api.ErrCycle, "b", 22},
		{head + `import"b";`, api.ErrCycle, "b", 22},
		{head + `import"c";import"c";`, api.ErrTwice, "b", 32},
	} {
		l := append(sources("a: b b", "c:"), api.Source{Path: "b", Text: c.b})
		fails(t, l, "a", c.e, c.path, c.at)
	}
	fails(t, sources("a: z z"), "a", api.ErrMissing, "a", 22)
	fails(t, sources("a: b z z", "b:"), "a", api.ErrMissing, "a", 32)
	fails(t, sources("a: b z b", "b:"), "a", api.ErrMissing, "a", 32)
	fails(t, sources("a: b b z", "b:"), "a", api.ErrTwice, "a", 32)
	fails(t, sources("a: a a"), "a", api.ErrCycle, "a", 22)
	fails(t, sources("a: b a", "b:"), "a", api.ErrCycle, "a", 32)
}

// P6.1: a file that imports itself, directly or indirectly, is ErrCycle at the
// import of a file whose imports are being visited.
func TestCycles(t *testing.T) {
	fails(t, sources("a: a"), "a", api.ErrCycle, "a", 22)
	fails(t, sources("a: +a"), "a", api.ErrCycle, "a", 29)
	fails(t, sources("a: b", "b: b"), "a", api.ErrCycle, "b", 22)

	two := sources("a: c b", "b: +c a", "c:", "d: +b")
	fails(t, two, "a", api.ErrCycle, "b", at(two, "b", "a", 0))
	fails(t, two, "b", api.ErrCycle, "a", at(two, "a", "b", 0))
	fails(t, two, "d", api.ErrCycle, "a", at(two, "a", "b", 0))
	fails(t, two, "c a b d", api.ErrCycle, "b", at(two, "b", "a", 0))
	reads(t, two, "c", "c")

	three := sources("a: b", "b: +c", "c: d a", "d:", "e: d +c")
	fails(t, three, "a", api.ErrCycle, "c", at(three, "c", "a", 0))
	fails(t, three, "b", api.ErrCycle, "a", at(three, "a", "b", 0))
	fails(t, three, "c", api.ErrCycle, "b", at(three, "b", "c", 0))
	fails(t, three, "e", api.ErrCycle, "b", at(three, "b", "c", 0))
	fails(t, three, "d d e a", api.ErrCycle, "b", at(three, "b", "c", 0))
}

// P6.1: a circle of any length that the limits allow, from each of its files.
func TestGreatCycles(t *testing.T) {
	for count := 1; count <= api.MaxFiles; count++ {
		paths := numbered(count)
		var lines []string
		for i, path := range paths {
			lines = append(lines, path+": "+paths[(i+1)%count])
		}
		for i, path := range paths {
			fails(t, sources(lines...), path, api.ErrCycle, paths[(i+count-1)%count], 22)
		}
	}
}

// P6.1: files that are read more than once on the way are no cycle.
func TestNoCycles(t *testing.T) {
	reads(t, sources("a: b c", "b: d", "c: d", "d:"), "a", "a b c d")
	reads(t, sources("a: b c d", "b: d c", "c: +d", "d:"), "d a", "a b c d")
	paths := numbered(api.MaxFiles)
	var lines []string
	for i, path := range paths {
		lines = append(lines, path+": "+strings.Join(paths[i+1:], " +"))
	}
	all := strings.Join(paths, " ")
	reads(t, sources(lines...), paths[0], all)
	reads(t, sources(lines...), all, all)
	slices.Reverse(lines)
	reads(t, sources(lines...), all, all)
}

// P6.1: where several files are wrong, the first error of the way through them is
// the result: a file's imports come ahead of what stands behind them.
func TestFirstError(t *testing.T) {
	l := append(sources("a: b c", "b: ok e", "c: z", "d: c b", "e: ok ok", "f: ok c e", "ok:", "g: x", "h: y g"), api.Source{Path: "x", Text: "?"})
	for roots, want := range map[string]struct {
		e        api.Errno
		in, path string
		index    int
	}{
		"a":        {api.ErrTwice, "e", "ok", 1},
		"b":        {api.ErrTwice, "e", "ok", 1},
		"c":        {api.ErrMissing, "c", "z", 0},
		"d":        {api.ErrMissing, "c", "z", 0},
		"f":        {api.ErrMissing, "c", "z", 0},
		"ok f e":   {api.ErrMissing, "c", "z", 0},
		"ok e f":   {api.ErrTwice, "e", "ok", 1},
		"h":        {api.ErrMissing, "h", "y", 0},
		"ok h g":   {api.ErrMissing, "h", "y", 0},
		"ok ok c":  {api.ErrMissing, "c", "z", 0},
		"ok c zzz": {api.ErrMissing, "c", "z", 0},
	} {
		fails(t, l, roots, want.e, want.in, at(l, want.in, want.path, want.index))
	}
	fails(t, l, "ok g h", api.ErrWord, "x", 0)
	fails(t, l, "x a", api.ErrWord, "x", 0)
	fails(t, l, "zzz x a", api.ErrMissing, "zzz", 0)
	fails(t, l, "ok zzz a", api.ErrMissing, "zzz", 0)
}

// P6.1: units come by increasing paths, bytewise, with whole trees and all of
// their offsets.
func TestUnits(t *testing.T) {
	l := []api.Source{
		{Path: "b/x", Text: head + "\n" + `import  "Z"; message M {Z.T z = 1;}`},
		{Path: "a", Text: "// a file\nsyntax='proto3' ;import public 'b/x' ;package a; import \"r\\x69ch\";"},
		{Path: "rich", Text: rich},
		{Path: "Z", Text: head + "package Z;message T{}"},
		{Path: "b", Text: head},
		{Path: "b-", Text: head + `import"b";import"b/x";`},
		{Path: "_", Text: rich},
	}
	got := reads(t, l, "a b- _", "Z _ a b b- b/x rich")
	if len(got) == 7 && (got[2].Tree.Imports[0].At != 41 || got[6].Tree.Msgs[0].Fields[2].Oneof != 0) {
		t.Errorf("the trees are %s", told(got))
	}
	reads(t, l, "_ rich", "_ rich")
	reads(t, l, "b/x", "Z b/x")
}

// P6.4: sources that are not required do not matter, however wrong they are.
func TestNotRequired(t *testing.T) {
	l := sources("a: +b", "b: c", "c:")
	wrong := append(sources("x: x", "y: zz b b", "w: v", "v: w a", "u: y t"), l...)
	for i, s := range wrongTexts()[:8] {
		wrong = append(wrong, api.Source{Path: fmt.Sprint("t", i), Text: s})
	}
	for _, some := range [][]api.Source{l, wrong} {
		slices.Reverse(some)
		reads(t, some, "a", "a b c")
		reads(t, some, "b c", "b c")
	}
}
