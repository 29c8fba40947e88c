package files_test

import (
	"math/rand"
	"slices"
	"strings"
	"testing"

	"signetry/api"
	"signetry/files"
)

// agrees checks that Read returns what the second way does, and that the units
// are valid.
func agrees(t *testing.T, l []api.Source, roots []string) ([]api.Unit, api.Errno) {
	t.Helper()
	got, at, e := files.Read(l, roots)
	want, wantAt, wantE := secondRead(l, roots)
	if e != wantE || at != wantAt || told(got) != told(want) {
		t.Errorf("Read of %v: %d, %+v, %.600s\nwant %d, %+v, %.600s\nof %.600v", roots, e, at, told(got), wantE, wantAt, told(want), l)
	}
	if check := files.Check(got); check != api.OK {
		t.Errorf("Check %d of %.600s, read from %v of %.600v", check, told(got), roots, l)
	}
	return got, e
}

// files that import up to two others, in each order, or the same one twice; or
// whose text is wrong; or that are not there.
func smallFiles(paths []string) (texts []string) {
	for _, l := range sequences(paths, 2) {
		texts = append(texts, head+importing(strings.Join(l, " ")))
	}
	return append(texts, head+importing("+"+paths[0])+"?", "")
}

// P6.1: all sets of three small files, from each one or two roots.
func TestAllSmallFiles(t *testing.T) {
	paths := []string{"a", "b", "c"}
	texts := smallFiles(paths)
	missing := len(texts)
	count := map[api.Errno]int{}
	for i := range (missing + 1) * (missing + 1) * (missing + 1) {
		var l []api.Source
		for _, path := range paths {
			if which := i % (missing + 1); which < missing {
				l = append(l, api.Source{Path: path, Text: texts[which]})
			}
			i /= missing + 1
		}
		for _, roots := range sequences(paths, 2)[1:] {
			_, e := agrees(t, l, roots)
			count[e]++
		}
	}
	for _, e := range []api.Errno{api.OK, api.ErrSyntax, api.ErrWord, api.ErrMissing, api.ErrCycle, api.ErrTwice} {
		if count[e] < 100 {
			t.Errorf("%d occurs only %d times: %v", e, count[e], count)
		}
	}
}

// randomSources is files with these paths, of which each one imports some of the
// others, those behind it in the list most of the time.
func randomSources(r *rand.Rand, paths []string) (l []api.Source) {
	for i, path := range paths {
		var imports []string
		if others := paths[i+1:]; len(others) > 0 {
			for range r.Intn(min(4, len(others)) + 1) {
				imports = append(imports, pick(r, others))
			}
		}
		if slices.Sort(imports); r.Intn(12) > 0 {
			imports = slices.Compact(imports)
		}
		if r.Intn(60) == 0 {
			imports = append(imports, pick(r, []string{"z", paths[0], path}))
		}
		for i := range imports {
			if r.Intn(2) == 0 {
				imports[i] = "+" + imports[i]
			}
		}
		text := head + importing(strings.Join(shuffled(r, imports), " "))
		if r.Intn(60) == 0 {
			text = pick(r, []string{"", text + "?", text + "message", rich})
		}
		l = append(l, api.Source{Path: path, Text: text})
	}
	return shuffled(r, l)
}

// rooted is random files, and some of their paths as roots.
func rooted(seed int64) (*rand.Rand, []api.Source, []string) {
	r := rand.New(rand.NewSource(seed))
	paths := shuffled(r, list("a A b/c b- b.proto _ . 0 1/ zz y x w v u t")[:1+r.Intn(16)])
	l := randomSources(r, paths)
	var roots []string
	for range 1 + r.Intn(3) {
		roots = append(roots, pick(r, paths))
	}
	return r, l, roots
}

// P6.1, P6.4: random files: what is read is what the second way reads, and is
// valid; it is the roots and all that they import.
func TestRandomFiles(t *testing.T) {
	count := map[api.Errno]int{}
	for seed := range int64(4000) {
		_, l, roots := rooted(seed)
		got, e := agrees(t, l, roots)
		count[e]++
		if e == api.OK {
			accepts(t, "units that were read", got)
			isRequired(t, got, roots)
		}
	}
	if len(count) < 6 || count[api.OK] < 1000 {
		t.Errorf("the errors are %v", count)
	}
}

// isRequired checks that units are exactly the roots and what these import.
func isRequired(t *testing.T, l []api.Unit, roots []string) {
	t.Helper()
	required := map[string]bool{}
	var require func(path string)
	require = func(path string) {
		required[path] = true
		for _, u := range l {
			if u.Path == path {
				for _, d := range u.Tree.Imports {
					require(d.Path)
				}
			}
		}
	}
	for _, path := range roots {
		require(path)
	}
	for _, u := range l {
		if !required[u.Path] {
			t.Errorf("%s is not required by %v", u.Path, roots)
		}
		delete(required, u.Path)
	}
	if len(required) > 0 {
		t.Errorf("of %v, %v is missing", roots, required)
	}
}

// P6.4: other sources change no result, right or wrong, as long as they are not
// required.
func TestOthersDoNotMatter(t *testing.T) {
	for seed := range int64(600) {
		r, l, roots := rooted(seed)
		got, e := agrees(t, l, roots)
		if e != api.OK {
			continue
		}
		var needed []api.Source
		for _, u := range got {
			needed = append(needed, chosen(l, u.Path)...)
		}
		if again, _, e := files.Read(needed, roots); e != api.OK || told(again) != told(got) {
			t.Errorf("without the others: %d, %.600s\nwant %.600s", e, told(again), told(got))
		}
		for i := range l {
			if !slices.ContainsFunc(got, func(u api.Unit) bool { return u.Path == l[i].Path }) {
				l[i].Text = pick(r, append(wrongTexts(), rich, head+importing(l[i].Path), head+importing(roots[0])))
			}
		}
		if again, _, e := files.Read(l, roots); e != api.OK || told(again) != told(got) {
			t.Errorf("with other others: %d, %.600s\nwant %.600s", e, told(again), told(got))
		}
	}
}

// P6.5: neither the order of the sources, nor that of the roots, nor roots that
// are repeated change a result without an error.
func TestOrderDoesNotMatter(t *testing.T) {
	for seed := range int64(600) {
		r, l, roots := rooted(seed)
		got, e := agrees(t, l, roots)
		if e != api.OK {
			continue
		}
		for range 8 {
			more := shuffled(r, append(slices.Clone(roots), pick(r, roots), pick(r, roots)))
			if again, at, e := files.Read(shuffled(r, l), more); e != api.OK || at != (api.Where{}) || told(again) != told(got) {
				t.Errorf("in another order: %d, %+v, %.600s\nwant %.600s", e, at, told(again), told(got))
			}
		}
	}
}

// P6.1: the order of the sources changes no error either.
func TestOrderOfSources(t *testing.T) {
	for seed := range int64(2000) {
		r, l, roots := rooted(seed)
		_, at, e := files.Read(l, roots)
		if _, at2, e2 := files.Read(shuffled(r, l), roots); at2 != at || e2 != e {
			t.Errorf("in another order: %d, %+v, want %d, %+v", e2, at2, e, at)
		}
	}
}

// P6.2: all imports that three units can have of each other and of themselves,
// publicly or not.
func TestAllSmallUnits(t *testing.T) {
	paths := []string{"a", "b", "c"}
	for which := range 27 * 27 * 27 {
		code, lines := which, []string(nil)
		for _, path := range paths {
			line := path + ":"
			for _, other := range paths {
				line += []string{"", " " + other, " +" + other}[code%3]
				code /= 3
			}
			lines = append(lines, line)
		}
		l := units(lines...)
		if what := strings.Join(lines, ", "); secondCyclic(l) {
			refuses(t, what, l)
		} else {
			accepts(t, what, l)
		}
	}
}

// randomUnits is units that are valid, with imports that lead to units behind or
// ahead.
func randomUnits(r *rand.Rand) []api.Unit {
	paths := shuffled(r, numbered(1+r.Intn(16)))
	var lines []string
	for i, path := range paths {
		line := path + ":"
		for _, other := range shuffled(r, paths[i+1:]) {
			line += pick(r, []string{"", "", " " + other, " +" + other})
		}
		lines = append(lines, line)
	}
	slices.Sort(lines)
	return units(lines...)
}

// P6.2: random units, and what they see, and their order.
func TestRandomUnits(t *testing.T) {
	r := rand.New(rand.NewSource(1))
	for range 600 {
		accepts(t, "random units", randomUnits(r))
	}
}

// P6.2: random units of which one imports one more.
func TestRandomUnitsWithOneMore(t *testing.T) {
	r := rand.New(rand.NewSource(2))
	refused := 0
	for range 1500 {
		l := randomUnits(r)
		of, more := &l[r.Intn(len(l))].Tree, pick(r, l).Path
		isTwice := slices.ContainsFunc(of.Imports, func(d api.Import) bool { return d.Path == more })
		of.Imports = append(of.Imports, api.Import{Path: more, Public: r.Intn(2) == 0})
		if isTwice || secondCyclic(l) {
			refused++
			refuses(t, "one import more", l)
		} else {
			accepts(t, "one import more", l)
		}
	}
	if refused < 200 || refused > 1300 {
		t.Errorf("%d are refused", refused)
	}
}

// P6.6: what a unit sees it also sees if one of them imports more, or imports
// publicly what it imported.
func TestMoreIsSeen(t *testing.T) {
	r := rand.New(rand.NewSource(3))
	for range 600 {
		l := randomUnits(r)
		before := map[string][]string{}
		for _, u := range l {
			before[u.Path] = files.Sees(l, u.Path)
		}
		of, more := &l[r.Intn(len(l))].Tree, pick(r, l).Path
		if i := slices.IndexFunc(of.Imports, func(d api.Import) bool { return d.Path == more }); i >= 0 {
			of.Imports[i].Public = true
		} else {
			of.Imports = append(of.Imports, api.Import{Path: more, Public: r.Intn(2) == 0})
		}
		if files.Check(l) != api.OK {
			continue
		}
		for path, seen := range before {
			if now := files.Sees(l, path); !contains(now, seen) {
				t.Errorf("%s sees %v, and did see %v", path, now, seen)
			}
		}
	}
}

// P6.6: what is visible publicly through a unit is seen by all units that import
// it: that unit itself, and, whatever it imports publicly, what is visible
// publicly through that.
func TestPublicIsSeen(t *testing.T) {
	r := rand.New(rand.NewSource(4))
	for range 300 {
		l := randomUnits(r)
		var through func(path string) []string
		through = func(path string) []string {
			paths := []string{path}
			i := slices.IndexFunc(l, func(u api.Unit) bool { return u.Path == path })
			for _, d := range l[i].Tree.Imports {
				if d.Public && !slices.Contains(paths, d.Path) {
					paths = append(paths, through(d.Path)...)
				}
			}
			slices.Sort(paths)
			return slices.Compact(paths)
		}
		for _, u := range l {
			for _, d := range u.Tree.Imports {
				if seen := files.Sees(l, u.Path); !contains(seen, through(d.Path)) {
					t.Errorf("%s sees %v, and imports %s", u.Path, seen, d.Path)
				}
			}
		}
	}
}

func contains(all, some []string) bool {
	return !slices.ContainsFunc(some, func(s string) bool { return !slices.Contains(all, s) })
}
