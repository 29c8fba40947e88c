package scope_test

import (
	"strings"
	"testing"

	"signetry/api"
	"signetry/scope"
)

// P7.2: the path has to be that of a unit, whatever the scope and the name are;
// that comes ahead of a name that means nothing.
func TestPathsOfNoUnit(t *testing.T) {
	l := units(`a: import public"b";message M{}`, "b: message M{}", "dir/c: message M{}")
	for _, path := range []string{"", "c", "A", "a/", "/a", "ab", "dir", "dir/", "dir/c ", "a b", "?", "\xff", ".", strings.Repeat("a", 1<<16)} {
		for _, name := range []string{"M", ".M", "N", "", ".", "M."} {
			fails(t, l, path, "", name, api.ErrArg)
			fails(t, l, path, "M", name, api.ErrArg)
		}
	}
	for _, path := range []string{"a", "b", "dir/c"} {
		finds(t, l, path, "", "M", map[string]string{"a": "M", "b": "M", "dir/c": "M"}[path])
		fails(t, l, path, "", "N", api.ErrName)
	}
}

// P7.2: a name means the nearest symbol, from the scope outwards.
func TestNearest(t *testing.T) {
	l := units("a: package p.q;message N{}message M{message N{message N{}}message O{}}",
		`b: import"a";import"c";message N{}message q{message N{}}`,
		"c: package p;message N{}message O{}")
	for in, want := range map[string]string{
		"p.q.M.N.N": "p.q.M.N.N a", "p.q.M.N": "p.q.M.N.N a", "p.q.M.N.O.X": "p.q.M.N.N a",
		"p.q.M": "p.q.M.N a", "p.q.M.O": "p.q.M.N a", "p.q.M.O.N": "p.q.M.N a", "p.q.M.X.Y": "p.q.M.N a",
		"p.q": "p.q.N a", "p.q.X": "p.q.N a", "p.q.N": "p.q.N a", "p.q.Mm": "p.q.N a",
		"p": "p.N c", "p.X": "p.N c", "p.qq": "p.N c", "p.Q.M": "p.N c", "p.O": "p.N c",
		"": "N", "x": "N", "x.p.q": "N", "P.q": "N", "pp": "N", "q": "q.N", "q.N": "q.N", "q.q": "q.N",
	} {
		finds(t, l, "b", in, "N", want)
	}
	finds(t, l, "b", "p.q.M.N", "O", "p.q.M.O a")
	finds(t, l, "b", "p.q.N", "O", "p.O c")
	finds(t, l, "b", "p.q.N", "q", "q")
	finds(t, l, "b", "p.q.M.N", "M", "p.q.M a")
	fails(t, l, "b", "p", "M", api.ErrName)
	fails(t, l, "b", "", "O", api.ErrName)
}

// P7.2: a name of several parts means a symbol as a whole: if only its first part
// is found further in, it is looked for further out.
func TestSeveralParts(t *testing.T) {
	l := units("a: package p;message N{message O{message P{}}}message M{message N{message Q{}}message O{}}",
		`b: import"a";message O{message P{}}message p{message M{message R{}}}`)
	finds(t, l, "b", "p.M", "N.O", "p.N.O a")
	finds(t, l, "b", "p.M.N", "N.O", "p.N.O a")
	finds(t, l, "b", "p.M.N.Q", "N.O.P", "p.N.O.P a")
	finds(t, l, "b", "p.M", "N.Q", "p.M.N.Q a")
	finds(t, l, "b", "p.M", "O.P", "O.P")
	finds(t, l, "b", "p.N", "O.P", "p.N.O.P a")
	finds(t, l, "b", "p.M", "M.N", "p.M.N a")
	finds(t, l, "b", "p.M", "p.N.O", "p.N.O a")
	finds(t, l, "b", "p.M", "p.M.R", "p.M.R")
	finds(t, l, "b", "x.y", "p.M.N.Q", "p.M.N.Q a")
	fails(t, l, "b", "p.M", "N.P", api.ErrName)
	fails(t, l, "b", "", "N.O", api.ErrName)
	fails(t, l, "b", "", "M.N", api.ErrName)
	fails(t, l, "b", "p.M", "N.O.Q", api.ErrName)
	fails(t, l, "a", "p.M", "O.P", api.ErrName)
}

// P7.2: a name with a leading period is a full name, in whichever scope.
func TestLeadingPeriod(t *testing.T) {
	l := units("a: package p;message M{message M{}message p{message M{}}}message p{message M{}}")
	for _, in := range []string{"", "p", "p.M", "p.M.M", "p.M.p", "p.M.p.M", "p.p", "x", ".", "..", ".p", "p."} {
		finds(t, l, "a", in, ".p.M", "p.M")
		finds(t, l, "a", in, ".p.M.M", "p.M.M")
		finds(t, l, "a", in, ".p.p.M", "p.p.M")
		finds(t, l, "a", in, ".p.M.p.M", "p.M.p.M")
		for _, name := range []string{".M", ".p", ".M.M", ".p.M.", "..p.M", ".p..M", ".", "..", "..M", ".p.M.X", ".P.M", ".p.MM"} {
			fails(t, l, "a", in, name, api.ErrName)
		}
	}
	finds(t, l, "a", "p.M", "p.M", "p.M.p.M")
	finds(t, l, "a", "p.p", "p.M", "p.p.M")
	finds(t, l, "a", "x", "p.M", "p.M")
}

// P7.2: names that are none mean nothing, in all scopes.
func TestNamesThatAreNone(t *testing.T) {
	l := units("a: package p.q;message M{message N{}}", `b: import"a";message M{message M{}}enum p{}`)
	for _, in := range []string{"", "p", "p.q", "p.q.M", "p.q.M.N", "M", "M.M", ".", "..", "p.", "p.q.", "p..q", ".p.q"} {
		for _, name := range []string{
			"", ".", "..", "...", "M.", ".M.", "M..", "M..M", "M..N", "..M", ".q.", "q.", "p.q", "p.q.", "q.M.", "M ", " M", "M.M.", "m", "MM", "1", "\xff", "\x00", "q\x00M", "M/M",
			strings.Repeat(".", 1<<10), strings.Repeat("M.", 1<<10), strings.Repeat("M", 1<<10),
		} {
			fails(t, l, "b", in, name, api.ErrName)
		}
	}
}

// P7.2: a scope is any text: what counts is the scopes around it.
func TestScopesOfAnyText(t *testing.T) {
	l := units("a: package p;message M{message N{}}message N{}", `b: import"a";message N{}`)
	for in, want := range map[string]string{
		"": "N", ".": "N", "..": "N", "...": "N", ".p": "N", ".p.M": "N", "..p": "N", " p": "N", "\xff": "N", "M": "N", "N": "N",
		"p": "p.N a", "p.": "p.N a", "p..": "p.N a", "p..M": "p.N a", "p.M ": "p.N a", "p.\xff": "p.N a", "p...M": "p.N a", "p.m": "p.N a", "p.MM": "p.N a",
		"p.M": "p.M.N a", "p.M.": "p.M.N a", "p.M..": "p.M.N a", "p.M..N": "p.M.N a", "p.M.N": "p.M.N a", "p.M.M.M.M": "p.M.N a", "p.M.?.\x00": "p.M.N a",
	} {
		finds(t, l, "b", in, "N", want)
	}
}

// P7.2, R1: scopes and names that are long, with very many scopes around them.
func TestLongScopesAndNames(t *testing.T) {
	const count = 1 << 22
	l := units("a: package p;message M{message N{}}message N{}")
	for in, want := range map[string]string{
		"p" + strings.Repeat(".", count):    "p.N",
		"p.M" + strings.Repeat(".N", count): "p.M.N",
		"p." + strings.Repeat("M", count):   "p.N",
		"p.M." + strings.Repeat("x", count): "p.M.N",
		"p.M" + strings.Repeat(".", count):  "p.M.N",
	} {
		finds(t, l, "a", in, "N", want)
		fails(t, l, "a", in, in, api.ErrName)
		fails(t, l, "a", in, "."+in, api.ErrName)
	}
	for _, in := range []string{strings.Repeat(".", count), strings.Repeat("p", count), strings.Repeat("p.p", count)} {
		if !strings.HasPrefix(in, "p.") {
			fails(t, l, "a", in, "N", api.ErrName)
		}
		fails(t, l, "a", in, in, api.ErrName)
		finds(t, l, "a", in, "p.M.N", "p.M.N")
	}
}

// P7.2: messages, enums and services are found alike.
func TestKindsOfWhatIsFound(t *testing.T) {
	l := units(`a: package p;message M{enum E{}message N{}}enum E{}service S{}`)
	for name, want := range map[string]string{
		"M": "message p.M a 34", "N": "message p.M.N a 52", "E": "enum p.M.E a 41", "p.E": "enum p.E a 61", "S": "service p.S a 72", ".p.S": "service p.S a 72",
	} {
		if got, e := scope.Find(l, "a", "p.M", name); e != api.OK || told(got) != want {
			t.Errorf("%s: %d, %s, want %s", name, e, told(got), want)
		}
	}
}

// P7.2, P7.5: what is of another kind, or no symbol, hides what is further out, or
// does not.
func TestOtherKindsHide(t *testing.T) {
	l := units("a: package p;message M{enum X{}message Y{}int32 Z=1;oneof W{M V=2;}}message X{}service Y{}enum Z{U=0;}message W{}message V{}service U{}message p{}")
	finds(t, l, "a", "p.M", "X", "p.M.X")
	finds(t, l, "a", "p.M", "Y", "p.M.Y")
	finds(t, l, "a", "p.M", "p", "p.p")
	finds(t, l, "a", "p.M", "p.X", "p.X")
	for _, name := range []string{"Z", "W", "V", "U"} {
		finds(t, l, "a", "p.M", name, "p."+name)
		finds(t, l, "a", "p.Z", name, "p."+name)
	}
}

// P7.2: a file sees itself, its imports, and what is imported publicly by them, in
// any number of steps; it sees nothing else.
func TestWhatIsSeen(t *testing.T) {
	l := units(
		`a: import"b";message A{}`,
		`b: import public"c";import"f";message B{}`,
		`c: import public"d";message C{}`,
		`d: import"e";message D{}`,
		"e: message E{}",
		`f: import public"g";message F{}`,
		"g: message G{}")
	seen := map[string]string{"a": "A B C D", "b": "B C D F G", "c": "C D", "d": "D E", "e": "E", "f": "F G", "g": "G"}
	for path, names := range seen {
		for _, name := range []string{"A", "B", "C", "D", "E", "F", "G"} {
			for _, in := range []string{"", name, "x.y"} {
				if strings.Contains(names, name) {
					finds(t, l, path, in, name, name+" "+strings.ToLower(name))
					finds(t, l, path, in, "."+name, name+" "+strings.ToLower(name))
				} else {
					fails(t, l, path, in, name, api.ErrName)
					fails(t, l, path, in, "."+name, api.ErrName)
				}
			}
		}
	}
}

// P7.2: of symbols with one name, the first one in their order is meant, of those
// that are seen.
func TestFirstOfSameNames(t *testing.T) {
	l := units(
		"a: ;message M{}",
		`b: import"a";import"d";enum M{}message M{}message M{}`,
		`c: import"d";service N{}`,
		"d: message M{}enum N{}message N{}",
		`e: import"c";`,
		`f: import"c";import"e";import public"b";`,
		`g: import"f";import"d";`)
	for path, want := range map[string]string{"a": "M", "b": "M a", "c": "M d", "d": "M", "f": "M b", "g": "M b"} {
		finds(t, l, path, "", "M", want)
		finds(t, l, path, "x", ".M", want)
	}
	for path, want := range map[string]string{"b": "N d", "c": "N", "d": "N", "e": "N c", "f": "N c", "g": "N d"} {
		finds(t, l, path, "", "N", want)
		finds(t, l, path, "N", ".N", want)
	}
	fails(t, l, "e", "", "M", api.ErrName)
	fails(t, l, "a", "", "N", api.ErrName)
	if got, _ := scope.Find(l, "f", "", "M"); told(got) != "enum M b 41" {
		t.Errorf("M is %s", told(got))
	}
}

// P7.2: nearness comes first: a symbol that is nearer is meant, even if its file
// has a greater path, and it comes later there.
func TestNearnessFirst(t *testing.T) {
	l := units(
		"a: message N{}message p{message N{}}",
		`b: import"a";import"c";package p.M;message X{}`,
		"c: package p;message N{}message M{message N{}}")
	finds(t, l, "b", "p.M", "N", "p.M.N c")
	finds(t, l, "b", "p.X", "N", "p.N a")
	finds(t, l, "b", "x", "N", "N a")
}

// P7.5: inner declarations hide outer ones, in the same file and in others.
func TestInnerHidesOuter(t *testing.T) {
	outer := "a: message N{}message M{}"
	l := units(outer, `b: import"a";package p;message M{message O{}}`)
	finds(t, l, "b", "p.M.O", "N", "N a")
	finds(t, l, "b", "p.M.O", "M", "p.M")
	l = units(outer, `b: import"a";package p;message N{}message M{message O{}}`)
	finds(t, l, "b", "p.M.O", "N", "p.N")
	l = units(outer, `b: import"a";package p;message N{}message M{enum N{}message O{}}`)
	finds(t, l, "b", "p.M.O", "N", "p.M.N")
	l = units(outer, `b: import"a";package p;message N{}message M{enum N{}message O{message N{}}}`)
	finds(t, l, "b", "p.M.O", "N", "p.M.O.N")
	finds(t, l, "b", "p.M", "N", "p.M.N")
	finds(t, l, "b", "p", "N", "p.N")
	finds(t, l, "b", "", "N", "N a")
	finds(t, l, "a", "p.M.O", "N", "N")
}

// P7.5: declarations that are not seen hide nothing, however near they are.
func TestNotSeenHidesNothing(t *testing.T) {
	hidden := "c: package p.q;message N{}message M{message N{}}"
	l := units("a: package p;message N{}", `b: import"a";package p.q;message M{}`, hidden, `d: import"c";`)
	finds(t, l, "b", "p.q.M", "N", "p.N a")
	finds(t, l, "b", "p.q.M", "M", "p.q.M")
	fails(t, l, "b", "p.q.M", "M.N", api.ErrName)
	l = units("a: package p;message N{}", `b: import"a";import"d";package p.q;message M{}`, hidden, `d: import"c";`)
	finds(t, l, "b", "p.q.M", "N", "p.N a")
	l = units("a: package p;message N{}", `b: import"a";import"d";package p.q;message M{}`, hidden, `d: import public"c";`)
	finds(t, l, "b", "p.q.M", "N", "p.q.M.N c")
	finds(t, l, "b", "p.q", "N", "p.q.N c")
	finds(t, l, "b", "p.q.M", "M.N", "p.q.M.N c")
}

// P7.4: a symbol is found by its full name with a leading period, in every scope,
// and by its own name in the scope in which it is declared.
func TestFoundInItsFile(t *testing.T) {
	l := units(
		`a: package p;import"b";message M{message p{message M{message E{}}}enum E{}}enum E{}service S{}message p{}`,
		"b: message E{message E{enum E{}}}enum p{}service S{}",
		"c: package E.E;message E{}enum p{}message S{message S{}}")
	all := scope.All(l)
	if len(all) != 17 {
		t.Fatal(allTold(all))
	}
	scopes := []string{"", ".", "p..", "none", "p.M.p.M.E.X"}
	for _, s := range all {
		scopes = append(scopes, s.Name)
	}
	for _, s := range all {
		for _, in := range scopes {
			finds(t, l, s.Path, in, "."+s.Name, s.Name)
		}
		outer := scope.Scopes(s.Name)[1]
		finds(t, l, s.Path, outer, strings.TrimPrefix(s.Name[len(outer):], "."), s.Name)
	}
}
