package kinds_test

import (
	"sync"
	"testing"

	"signetry/api"
	"signetry/kinds"
)

// answers is what the exported functions tell of one type: name is read from the
// table that is created once, all the rest is worked out by a function.
type answers struct {
	name                string
	class, wire, domain int
	key, packs          bool
	within, itself      bool
	called              int
}

func answersOf(t int) answers {
	name := kinds.Name(t)
	return answers{
		name, kinds.Class(t), kinds.Wire(t), kinds.Domain(t),
		kinds.Key(t), kinds.Packs(t),
		kinds.Within(t, t), kinds.Reads(field(t, api.One), field(t, api.Rep)),
		kinds.Type(name),
	}
}

// writtenAnswers is the same by the one table of the chapter.
func writtenAnswers(t int) answers {
	r, isType := rowOf(t)
	if !isType {
		return answers{wire: -1}
	}
	integers := r.least != nil
	a := answers{
		r.name, r.class, r.wire, r.domain,
		integers && t != api.TEnum || t == api.TString, r.wire != 2,
		integers, true,
		t,
	}
	if r.name == "" {
		a.called = 0
	}
	return a
}

// P17.1 to P17.3: for all types, and numbers that are none, the function that
// reads the table that is created once and those that do not answer as one and the
// same table says.
func TestOneTable(t *testing.T) {
	for _, n := range append(types(), none()...) {
		if got, want := answersOf(n), writtenAnswers(n); got != want {
			t.Errorf("%d: %+v, want %+v", n, got, want)
		}
	}
}

// P17.1: for all names, and texts that are none, the type that is found by a
// function has that name in the table that is created once.
func TestOneTableByNames(t *testing.T) {
	for _, r := range writtenRows() {
		if n := kinds.Type(r.name); kinds.Name(n) != r.name || r.name != "" && n != r.number {
			t.Errorf("%q is %d, which is called %q", r.name, n, kinds.Name(n))
		}
		for _, other := range []string{r.name + "0", "." + r.name, "M" + r.name, r.name + " "} {
			if n := kinds.Type(other); n != 0 || kinds.Name(n) != "" {
				t.Errorf("%q is %d, which is called %q", other, n, kinds.Name(n))
			}
		}
	}
}

// R2: they answer so in any order, and beside each other.
func TestOneTableAtOnce(t *testing.T) {
	l := append(types(), none()...)
	got := make([]answers, 4*len(l))
	var wait sync.WaitGroup
	for i := range got {
		wait.Go(func() { got[i] = answersOf(l[i%len(l)]) })
	}
	wait.Wait()
	for i, a := range got {
		if want := writtenAnswers(l[i%len(l)]); a != want {
			t.Errorf("%d: %+v, want %+v", l[i%len(l)], a, want)
		}
	}
}
