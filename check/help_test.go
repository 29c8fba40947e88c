package check_test

import (
	"fmt"
	"math/rand"
	"slices"
	"strings"
	"testing"

	"signetry/api"
	"signetry/check"
	"signetry/tree"
)

// head is what each file begins with: 16 bytes.
const head = `syntax="proto3";`

// units is the units of files that are written as lines, "a: message M{}", in
// their order, whether they are valid or not.
func units(lines ...string) (l []api.Unit) {
	for _, line := range lines {
		path, rest, _ := strings.Cut(line, ":")
		l = append(l, parsed(path, head+strings.TrimPrefix(rest, " ")))
	}
	return l
}

func parsed(path, text string) api.Unit {
	t, at, e := tree.Parse(text)
	if e != api.OK {
		panic(fmt.Sprintf("%s: %d at %d of %.1000s", path, e, at, text))
	}
	return api.Unit{Path: path, Tree: t}
}

// errorNames is the errors of the chapter.
func errorNames() map[api.Errno]string {
	return map[api.Errno]string{
		api.ErrLimit: "ErrLimit", api.ErrSyntax: "ErrSyntax", api.ErrName: "ErrName", api.ErrKind: "ErrKind", api.ErrTwice: "ErrTwice",
		api.ErrNumber: "ErrNumber", api.ErrReserved: "ErrReserved", api.ErrKey: "ErrKey", api.ErrZero: "ErrZero",
	}
}

// told is a diagnostic as a text: "a 42 ErrTwice".
func told(w api.Wrong) string {
	return fmt.Sprint(w.Path, " ", w.At, " ", errorNames()[w.E])
}

func allTold(l []api.Wrong) (lines []string) {
	for _, w := range l {
		lines = append(lines, told(w))
	}
	return lines
}

// is checks that these are all diagnostics of valid units, in this order.
func is(t *testing.T, l []api.Unit, want ...string) {
	t.Helper()
	got, e := check.All(l)
	if e != api.OK || !slices.Equal(allTold(got), want) {
		t.Errorf("the diagnostics are %d\n%s\nwant\n%s", e, strings.Join(allTold(got), "\n"), strings.Join(want, "\n"))
	}
	at, e := check.First(l)
	if len(want) == 0 && (e != api.OK || at != (api.Where{})) ||
		len(want) > 0 && told(api.Wrong{Path: at.Path, At: at.At, E: e}) != want[0] {
		t.Errorf("the first one is %d at %v, want that of %v", e, at, want)
	}
}

// marked checks files that are written as lines in which ^Twice Key^ is ahead of
// each place with diagnostics: these are all, in order. It then checks the same
// files with gaps between all tokens.
func marked(t *testing.T, lines ...string) {
	t.Helper()
	var l, spaced []api.Unit
	var want, wantSpaced []string
	for _, line := range lines {
		path, rest, _ := strings.Cut(line, ":")
		text, marks := unmarked(head + strings.TrimPrefix(rest, " "))
		l = append(l, parsed(path, text))
		want = append(want, tellMarks(path, marks)...)
		text, marks = spread(text, marks)
		spaced = append(spaced, parsed(path, text))
		wantSpaced = append(wantSpaced, tellMarks(path, marks)...)
	}
	is(t, l, want...)
	is(t, spaced, wantSpaced...)
}

// mark is a place with diagnostics.
type mark struct {
	at     int
	errors string
}

// unmarked is a text without its marks, and these.
func unmarked(s string) (string, []mark) {
	var b strings.Builder
	var marks []mark
	for i, part := range strings.Split(s, "^") {
		if i%2 == 1 {
			marks = append(marks, mark{b.Len(), part})
		} else {
			b.WriteString(part)
		}
	}
	return b.String(), marks
}

func tellMarks(path string, marks []mark) (lines []string) {
	for _, m := range marks {
		for _, e := range strings.Fields(m.errors) {
			lines = append(lines, fmt.Sprint(path, " ", m.at, " Err", e))
		}
	}
	return lines
}

// nested is messages with these names, each in the one before it, and something
// in the last one.
func nested(inside string, names ...string) string {
	for _, name := range slices.Backward(names) {
		inside = "message " + name + "{" + inside + "}"
	}
	return inside
}

// many is something as often, in which # is a number from 0 on, with three digits.
func many(count int, s string) string {
	var b strings.Builder
	for i := range count {
		b.WriteString(strings.ReplaceAll(s, "#", fmt.Sprintf("%03d", i)))
	}
	return b.String()
}

// pick is one of some.
func pick[T any](r *rand.Rand, some []T) T {
	return some[r.Intn(len(some))]
}
