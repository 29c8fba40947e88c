package files_test

import (
	"fmt"
	"math/rand"
	"slices"
	"strings"
	"testing"

	"signetry/api"
	"signetry/files"
	"signetry/tree"
)

// head is what each file begins with.
const head = `syntax="proto3";`

// sources is files that are written as lines: "a: b +c" is a, which imports b,
// and c publicly.
func sources(lines ...string) (l []api.Source) {
	for _, line := range lines {
		path, imports, _ := strings.Cut(line, ":")
		l = append(l, api.Source{Path: path, Text: head + importing(imports)})
	}
	return l
}

// importing is the text of imports that are written as in a line of sources.
func importing(imports string) string {
	var b strings.Builder
	for _, s := range strings.Fields(imports) {
		if path, isPublic := strings.CutPrefix(s, "+"); isPublic {
			b.WriteString(`import public"` + path + `";`)
		} else {
			b.WriteString(`import"` + s + `";`)
		}
	}
	return b.String()
}

// units is the units of files that are written as lines, in their order, whether
// they are valid or not.
func units(lines ...string) []api.Unit {
	return parsed(sources(lines...))
}

func parsed(l []api.Source) (out []api.Unit) {
	for _, s := range l {
		t, at, e := tree.Parse(s.Text)
		if e != api.OK {
			panic(fmt.Sprint(s, at, e))
		}
		out = append(out, api.Unit{Path: s.Path, Tree: t})
	}
	return out
}

// list is the parts of a line.
func list(line string) []string {
	return strings.Fields(line)
}

// chosen is the sources with these paths.
func chosen(l []api.Source, paths ...string) (out []api.Source) {
	for _, path := range paths {
		for _, s := range l {
			if s.Path == path {
				out = append(out, s)
			}
		}
	}
	return out
}

// told is units as a text that can be compared: nil and empty lists look the
// same in it, and offsets count.
func told(l []api.Unit) string {
	return fmt.Sprintf("%+v", l)
}

// reads checks that the roots are read, as units with these paths, and with the
// trees of tree.Parse. It returns the units.
func reads(t *testing.T, l []api.Source, roots, want string) []api.Unit {
	t.Helper()
	got, at, e := files.Read(l, list(roots))
	if e != api.OK || at != (api.Where{}) || told(got) != told(parsed(chosen(l, list(want)...))) {
		t.Errorf("Read of %s: %d, %+v, %.600s\nwant %s of %.600v", roots, e, at, told(got), want, l)
	}
	return got
}

// fails checks that reading the roots has this error, there, and no units.
func fails(t *testing.T, l []api.Source, roots string, want api.Errno, path string, at int) {
	t.Helper()
	failsFor(t, l, list(roots), want, path, at)
}

func failsFor(t *testing.T, l []api.Source, roots []string, want api.Errno, path string, at int) {
	t.Helper()
	got, where, e := files.Read(l, roots)
	if e != want || where != (api.Where{Path: path, At: at}) || got != nil {
		t.Errorf("Read of %.300q: %d, %.300v, %.300s\nwant %d, %.300q, %d of %.600v", roots, e, where, told(got), want, path, at, l)
	}
}

// accepts checks that units are valid, and what they see is what they see by the
// second way, and so is their order.
func accepts(t *testing.T, what string, l []api.Unit) {
	t.Helper()
	if e := files.Check(l); e != api.OK {
		t.Errorf("%s: %d", what, e)
	}
	for _, u := range l {
		if got, want := files.Sees(l, u.Path), secondSees(l, u.Path); !slices.Equal(got, want) {
			t.Errorf("%s: %s sees %v, want %v", what, u.Path, got, want)
		}
	}
	if got, want := files.Order(l), secondOrder(l); !slices.Equal(got, want) {
		t.Errorf("%s: the order is %v, want %v", what, got, want)
	}
}

// refuses checks that units are not valid: nothing sees anything, and there is no
// order.
func refuses(t *testing.T, what string, l []api.Unit) {
	t.Helper()
	if e := files.Check(l); e != api.ErrArg {
		t.Errorf("%s: %d, want %d", what, e, api.ErrArg)
	}
	if got := files.Order(l); len(got) != 0 {
		t.Errorf("%s: the order is %v", what, got)
	}
	for _, u := range l[:min(len(l), 2*api.MaxFiles)] {
		if got := files.Sees(l, u.Path); len(got) != 0 {
			t.Errorf("%s: %.300q sees %v", what, u.Path, got)
		}
	}
}

// sees checks what is seen.
func sees(t *testing.T, l []api.Unit, path, want string) {
	t.Helper()
	if got := files.Sees(l, path); !slices.Equal(got, list(want)) {
		t.Errorf("%s sees %v, want %s", path, got, want)
	}
}

// ordered checks an order.
func ordered(t *testing.T, l []api.Unit, want string) {
	t.Helper()
	if got := files.Order(l); !slices.Equal(got, list(want)) {
		t.Errorf("the order is %v, want %s", got, want)
	}
}

// numbered is that many paths, increasing.
func numbered(count int) (l []string) {
	for i := range count {
		l = append(l, fmt.Sprintf("f%02d", i))
	}
	return l
}

// pick is one of some.
func pick[T any](r *rand.Rand, some []T) T {
	return some[r.Intn(len(some))]
}

// shuffled is the elements of a list in another order.
func shuffled[T any](r *rand.Rand, l []T) []T {
	l = slices.Clone(l)
	r.Shuffle(len(l), func(i, j int) { l[i], l[j] = l[j], l[i] })
	return l
}

// sequences is all lists of up to that many of some.
func sequences[T any](some []T, most int) [][]T {
	all := [][]T{nil}
	for from := 0; most > 0; most-- {
		longest := all[from:]
		from = len(all)
		for _, l := range longest {
			for _, x := range some {
				all = append(all, append(slices.Clone(l), x))
			}
		}
	}
	return all
}
