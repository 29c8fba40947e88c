package scope_test

import (
	"fmt"
	"math/rand"
	"slices"
	"strings"
	"testing"

	"signetry/api"
	"signetry/files"
	"signetry/scope"
)

// agrees checks that All and Find return what the second way does, for all of
// these scopes and names in all files.
func agrees(t *testing.T, l []api.Source, scopes, some []string) (found int) {
	t.Helper()
	u, all := parsed(l), secondAll(l)
	if e := files.Check(u); e != api.OK {
		t.Fatalf("%d of %+v", e, l)
	}
	if got := scope.All(u); !slices.Equal(got, all) {
		t.Errorf("the symbols are %v\nwant %v\nof %v", allTold(got), allTold(all), l)
	}
	for _, of := range l {
		for _, in := range scopes {
			for _, name := range some {
				got, e := scope.Find(u, of.Path, in, name)
				want, wantE := secondFind(u, all, of.Path, in, name)
				if got != want || e != wantE {
					t.Errorf("%q in %q in %s: %d, %s, want %d, %s, of %v", name, in, of.Path, e, told(got), wantE, told(want), l)
				}
				if e == api.OK {
					found++
				}
			}
		}
	}
	return found
}

// P7.2: all short scopes and names, with periods anywhere, in files that have
// many names in common.
func TestAllShortScopesAndNames(t *testing.T) {
	short := shortTexts("ab.", 4)
	for _, l := range [][]string{
		{"f: message a{message a{message b{}}message b{}}enum b{}"},
		{"f: package a;message b{message a{}}message a{message b{}}"},
		{"f: package a.b;message a{message a{}}", `g: import"f";message a{enum b{}}service b{}`},
		{"f: package b;message b{}", `g: import public"f";package a;message b{message b{}}`, `h: import"g";package a.a;message aa{}message a{}`},
	} {
		if found := agrees(t, sources(l...), short, short); found < 500 {
			t.Errorf("%d are found in %v", found, l)
		}
	}
}

// randomBody is what a message, or a file, declares.
func randomBody(r *rand.Rand, deep int) string {
	var b strings.Builder
	for range r.Intn(4) {
		name := pick(r, someNames())
		switch r.Intn(4) {
		case 0:
			b.WriteString("enum " + name + "{message=0;" + pick(r, []string{"", "enum=1;", ";"}) + "}")
		case 1:
			b.WriteString(pick(r, []string{"", "\n", "// message N{\n", "/*}*/", ";"}))
		default:
			if deep < 4 {
				b.WriteString("message " + name + "{" + pick(r, []string{"", "M enum=1;", "oneof service{N message=2;}", "optional message message=3;"}) + randomBody(r, deep+1) + "}")
			}
		}
	}
	return b.String()
}

func someNames() []string {
	return strings.Fields("M N O p q M_ message enum package")
}

// randomSources is files that import some of those ahead of them, and use the
// same names again and again.
func randomSources(r *rand.Rand) (l []api.Source) {
	for i := range 1 + r.Intn(6) {
		var b strings.Builder
		b.WriteString(head + pick(r, []string{"", "package p;", "package p.q;", "package M;", "package p.M.N;", "package enum.package;"}))
		for j := range i {
			b.WriteString(pick(r, []string{"", "", fmt.Sprintf(`import"%d";`, j), fmt.Sprintf(`import public"%d";`, j)}))
		}
		b.WriteString(randomBody(r, 0))
		for range r.Intn(3) {
			b.WriteString("service " + pick(r, someNames()) + "{rpc message(M)returns(N){}}")
		}
		l = append(l, api.Source{Path: fmt.Sprint(i), Text: b.String()})
	}
	return l
}

// randomNames is names and scopes: of symbols, parts of them, and any others.
func randomNames(r *rand.Rand, all []api.Symbol, count int) (l []string) {
	for range count {
		var parts []string
		for range r.Intn(4) {
			parts = append(parts, pick(r, someNames()))
		}
		name := strings.Join(parts, ".")
		if len(all) > 0 && r.Intn(2) == 0 {
			name = pick(r, all).Name
			parts = strings.Split(name, ".")
			name = strings.Join(parts[r.Intn(len(parts)):], ".")
		}
		l = append(l, pick(r, []string{"", "", "", ".", "..", "p.q."})+name+pick(r, []string{"", "", "", "", ".", ".M", "x"}))
	}
	return l
}

// P7.1, P7.2: random files.
func TestRandomFiles(t *testing.T) {
	r := rand.New(rand.NewSource(1))
	found := 0
	for range 1500 {
		l := randomSources(r)
		all := secondAll(l)
		found += agrees(t, l, randomNames(r, all, 6), randomNames(r, all, 6))
	}
	if found < 8000 {
		t.Errorf("only %d are found", found)
	}
}

// P7.4: in random files, each symbol is found by its full name with a leading
// period, in its file, in every scope, and by its own name in the scope in which
// it is declared.
func TestRandomSymbolsAreFound(t *testing.T) {
	r := rand.New(rand.NewSource(2))
	for range 400 {
		l := randomSources(r)
		u := parsed(l)
		all := scope.All(u)
		for _, s := range all {
			outer := scope.Scopes(s.Name)[1]
			own := s.Name[strings.LastIndex(s.Name, ".")+1:]
			first := all[slices.IndexFunc(all, func(o api.Symbol) bool { return o.Name == s.Name && secondSees(u, s.Path, o.Path) })]
			for _, c := range append([][2]string{{outer, own}}, scopesOf("."+s.Name, randomNames(r, all, 4))...) {
				if got, e := scope.Find(u, s.Path, c[0], c[1]); e != api.OK || got != first {
					t.Errorf("%s in %q in %s: %d, %s, want %s", c[1], c[0], s.Path, e, told(got), told(first))
				}
			}
		}
	}
}

// scopesOf is a name in each of some scopes.
func scopesOf(name string, scopes []string) (l [][2]string) {
	for _, in := range append(scopes, "", name[1:]) {
		l = append(l, [2]string{in, name})
	}
	return l
}

// P7.5: in random files, a declaration that is added further in hides what was
// meant before, and nothing else.
func TestAddedInside(t *testing.T) {
	r := rand.New(rand.NewSource(3))
	hidden := 0
	for range 3000 {
		l := parsed(randomSources(r))
		of := pick(r, l)
		if len(of.Tree.Msgs) == 0 {
			continue
		}
		m := &of.Tree.Msgs[r.Intn(len(of.Tree.Msgs))]
		in, own := m.Name, pick(r, someNames())
		if of.Tree.Package != "" {
			in = of.Tree.Package + "." + in
		}
		before, e := scope.Find(l, of.Path, in, own)
		outside, outsideE := scope.Find(l, of.Path, scope.Scopes(in)[1], own)
		m.Msgs = append(m.Msgs, api.MsgDef{Name: own, At: 1 << 20})
		after, afterE := scope.Find(l, of.Path, in, own)
		if afterE != api.OK || after.Name != in+"."+own {
			t.Errorf("%s in %s is %s", own, in, told(after))
		}
		if e == api.OK && before.Name != after.Name {
			hidden++
		}
		if again, e := scope.Find(l, of.Path, scope.Scopes(in)[1], own); again != outside || e != outsideE {
			t.Errorf("%s in %s is %d, %s, and was %d, %s", own, scope.Scopes(in)[1], e, told(again), outsideE, told(outside))
		}
	}
	if hidden < 200 {
		t.Errorf("only %d are hidden", hidden)
	}
}

// P7.5: in random files, what is added to files that are not seen changes nothing.
func TestAddedWhereNotSeen(t *testing.T) {
	r := rand.New(rand.NewSource(4))
	added := 0
	for range 1000 {
		l := parsed(randomSources(r))
		path := pick(r, l).Path
		all := scope.All(l)
		scopes, some := randomNames(r, all, 5), append(randomNames(r, all, 5), someNames()...)
		before, changed := meanings(l, path, scopes, some), 0
		for i, u := range l {
			if slices.Contains(files.Sees(l, path), u.Path) {
				continue
			}
			changed++
			l[i].Tree.Package = pick(r, append([]string{""}, secondScopes(strings.Trim(pick(r, scopes), "."))...))
			l[i].Tree.Msgs = nil
			for _, own := range someNames() {
				l[i].Tree.Msgs = append(l[i].Tree.Msgs, api.MsgDef{Name: own})
			}
		}
		if files.Check(l) != api.OK {
			continue
		}
		added += changed
		if after := meanings(l, path, scopes, some); after != before {
			t.Errorf("%s\nbecame\n%s", before, after)
		}
	}
	if added < 500 {
		t.Errorf("only %d are added", added)
	}
}

// meanings is what names mean in a file, as a text that can be compared.
func meanings(l []api.Unit, path string, scopes, some []string) string {
	var b strings.Builder
	for _, in := range scopes {
		for _, name := range some {
			s, e := scope.Find(l, path, in, name)
			fmt.Fprintf(&b, "%q in %q: %d, %s\n", name, in, e, told(s))
		}
	}
	return b.String()
}

// P7.2: Find means one of All, and Scopes say which: the first one in the nearest
// scope.
func TestFindByAllAndScopes(t *testing.T) {
	r := rand.New(rand.NewSource(5))
	for range 500 {
		l := parsed(randomSources(r))
		all := scope.All(l)
		path := pick(r, l).Path
		seen := files.Sees(l, path)
		for _, in := range randomNames(r, all, 5) {
			for _, own := range someNames() {
				want, wantE := api.Symbol{}, api.ErrName
				for _, outer := range scope.Scopes(in) {
					full := strings.TrimPrefix(outer+"."+own, ".")
					if outer != "" {
						full = outer + "." + own
					}
					i := slices.IndexFunc(all, func(s api.Symbol) bool { return s.Name == full && slices.Contains(seen, s.Path) })
					if wantE != api.OK && i >= 0 {
						want, wantE = all[i], api.OK
					}
				}
				if got, e := scope.Find(l, path, in, own); got != want || e != wantE {
					t.Errorf("%s in %q in %s: %d, %s, want %d, %s", own, in, path, e, told(got), wantE, told(want))
				}
			}
		}
	}
}
