package jtree_test

import (
	"cmp"
	"fmt"
	"math/rand"
	"reflect"
	"slices"
	"strings"
	"sync"
	"testing"
	"unsafe"

	"signetry/api"
	"signetry/jtree"
)

// area is memory, from one address up to another, and what is there.
type area struct {
	from, to uintptr
	what     string
	isText   bool
}

func (a area) meets(b area) bool {
	return a.from < b.to && b.from < a.to
}

// areas is the memory of all strings and lists of a node, with the unused capacity of
// the lists. Strings of one byte are left out, as all of them are at the same places.
func areas(n jtree.Node, what string) (l []area) {
	text := func(s, what string) {
		if len(s) > 1 {
			from := uintptr(unsafe.Pointer(unsafe.StringData(s)))
			l = append(l, area{from, from + uintptr(len(s)), what + " " + s[:min(len(s), 30)], true})
		}
	}
	text(n.S, what)
	if cap(n.Keys) > 0 {
		from := uintptr(unsafe.Pointer(unsafe.SliceData(n.Keys)))
		l = append(l, area{from, from + uintptr(cap(n.Keys))*unsafe.Sizeof(""), what + " keys", false})
	}
	if cap(n.L) > 0 {
		from := uintptr(unsafe.Pointer(unsafe.SliceData(n.L)))
		l = append(l, area{from, from + uintptr(cap(n.L))*unsafe.Sizeof(n), what + " list", false})
	}
	for _, key := range n.Keys {
		text(key, what+" key")
	}
	for i, part := range n.L {
		l = append(l, areas(part, fmt.Sprintf("%s.%d", what, i))...)
	}
	return l
}

// apart checks that results share no memory with arguments, nor with each other, nor
// their lists among themselves.
func apart(t *testing.T, arguments, results []area) {
	t.Helper()
	all := slices.Concat(arguments, results)
	slices.SortFunc(all, func(a, b area) int { return cmp.Compare(a.from, b.from) })
	for i, a := range all {
		isResult := func(a area) bool { return slices.Contains(results, a) }
		if i > 0 && all[i-1].meets(a) && (isResult(a) || isResult(all[i-1])) {
			t.Errorf("%s and %s share memory", all[i-1].what, a.what)
		}
	}
}

// project is a node with something of everything, in memory of its own.
func project() jtree.Node {
	own := func(s string) string { return strings.Clone(s) }
	return jtree.Node{
		Kind: jtree.KObj,
		Keys: []string{own("first key"), own("second key"), own("third key"), own("fourth key"), own("")},
		L: []jtree.Node{
			str(own("some text\n")),
			num(own("-1234567890")),
			list(null(), no(), yes(), str(own("more text")), list(list(), num(own("77")), obj())),
			{Kind: jtree.KObj, Keys: []string{own("inner key"), own("other key")}, L: []jtree.Node{str(own("last text")), list(str(own("ä€😀")))}},
			null(),
		},
	}
}

const projectText = `{"first key":"some text\n","second key":-1234567890,"third key":[null,false,true,"more text",[[],77,{}]],"fourth key":{"inner key":"last text","other key":["ä€😀"]},"":null}`

func textArea(s, what string) []area {
	return areas(str(s), what)
}

// P14.3: results share no memory with arguments, nor do those of two calls.
func TestResultsAreNewMemory(t *testing.T) {
	n := project()
	writes(t, n, projectText)
	s := strings.Clone(projectText)
	argument := slices.Concat(areas(n, "argument"), textArea(s, "text"))
	var results []area
	for i := range 3 {
		read, _, _ := jtree.Parse(s)
		copied := jtree.Copy(n)
		written, _ := jtree.Text(n)
		results = slices.Concat(results, areas(read, fmt.Sprint("read", i)), areas(copied, fmt.Sprint("copied", i)), textArea(written, fmt.Sprint("written", i)))
		for _, key := range n.Keys {
			got, ok := jtree.Get(n, key)
			if !ok {
				t.Error(key)
			}
			results = append(results, areas(got, fmt.Sprint("got", i, key))...)
		}
	}
	apart(t, argument, results)
	r := rand.New(rand.NewSource(20))
	for range 2000 {
		n := anyNode(r, 4)
		s := looseText(r, n, looseString)
		text, _ := jtree.Text(n)
		first, _, _ := jtree.Parse(s)
		second, _, _ := jtree.Parse(s)
		apart(t, slices.Concat(areas(n, "argument"), textArea(s, "text")), slices.Concat(areas(jtree.Copy(n), "copied"), areas(first, "first"), areas(second, "second"), textArea(text, "written")))
	}
}

// loose is a string whose memory can be overwritten behind its back, which shows
// whether a result shares it.
func loose(s string) (string, func()) {
	b := []byte(s)
	return unsafe.String(unsafe.SliceData(b), len(b)), func() {
		for i := range b {
			b[i] = '!'
		}
	}
}

// P14.3: nothing of a text is kept, also of one that is a single string or number.
func TestTextIsNotKept(t *testing.T) {
	for s, want := range map[string]jtree.Node{
		projectText: project(), `"a string"`: str("a string"), `-12345`: num("-12345"), ` 12 `: num("12"), `""`: str(""), `{"a key":"a value"}`: obj("a key", str("a value")), `7`: num("7"), `"x"`: str("x"), `null`: null(),
	} {
		text, spoil := loose(s)
		n, _, e := jtree.Parse(text)
		if text != s || e != api.OK {
			t.Errorf("%q became %q, %d", s, text, e)
		}
		spoil()
		if !equal(n, want) {
			t.Errorf("%q: the result became %s", s, told(n))
		}
	}
	for _, kind := range []int{jtree.KNum, jtree.KStr} {
		text, spoil := loose("1234")
		n := jtree.Node{Kind: kind, S: text}
		written, _ := jtree.Text(n)
		copied := jtree.Copy(n)
		in := obj(text, n)
		got, _ := jtree.Get(in, text)
		all, _ := jtree.Text(in)
		spoil()
		one := strings.Trim(written, `"`)
		if one != "1234" || copied.S != "1234" || got.S != "1234" || all != `{"1234":`+written+`}` {
			t.Errorf("the results became %s, %s, %s, %s", written, copied.S, got.S, all)
		}
	}
}

// withRoom gives each list of a node spare capacity with something in it, and returns
// all of the lists with it.
func withRoom(n *jtree.Node) (keys [][]string, lists [][]jtree.Node) {
	n.Keys = append(slices.Clone(n.Keys), "spare", "room")[:len(n.Keys)]
	n.L = append(slices.Clone(n.L), str("spare"), num("room"))[:len(n.L)]
	keys, lists = append(keys, n.Keys[:cap(n.Keys)]), append(lists, n.L[:cap(n.L)])
	for i := range n.L {
		k, l := withRoom(&n.L[i])
		keys, lists = append(keys, k...), append(lists, l...)
	}
	return keys, lists
}

// P14.3: nodes are only read, with what is behind all of their lists, whether they are
// valid or not.
func TestArgumentsAreOnlyRead(t *testing.T) {
	t.Parallel()
	r := rand.New(rand.NewSource(21))
	for i := range 3000 {
		n, m := anyNode(r, 4), anything(r, 3)
		switch i % 3 {
		case 0:
			change(r, &n)
		case 1:
			m = jtree.Copy(n)
		}
		keys, lists := withRoom(&n)
		moreKeys, moreLists := withRoom(&m)
		all := func() string {
			return fmt.Sprintf("%v %#v %#v %#v %#v %#v %#v", i, n, m, keys, lists, moreKeys, moreLists)
		}
		before := all()
		for _, n := range []jtree.Node{n, m} {
			jtree.Check(n)
			jtree.Text(n)
			c := jtree.Copy(n)
			ruin(&c)
			jtree.Count(n)
			jtree.Same(n, m)
			jtree.Same(m, n)
			for _, key := range append([]string{"", "a"}, n.Keys...) {
				got, _ := jtree.Get(n, key)
				ruin(&got)
			}
		}
		if now := all(); now != before {
			t.Fatalf("%s\nbecame\n%s", before, now)
		}
	}
}

// ruin changes all of a node, with what is behind its lists.
func ruin(n *jtree.Node) {
	keys, l := n.Keys[:cap(n.Keys)], n.L[:cap(n.L)]
	for i := range keys {
		keys[i] = "ruined"
	}
	for i := range l {
		ruin(&l[i])
	}
	n.Kind, n.S = 99, "ruined"
}

// P14.3: a result that is changed changes no later result and no argument.
func TestChangedResults(t *testing.T) {
	n := project()
	for range 3 {
		first, _, _ := jtree.Parse(projectText)
		second, _, _ := jtree.Parse(projectText)
		copied, other := jtree.Copy(n), jtree.Copy(n)
		ruin(&first)
		ruin(&copied)
		for _, key := range n.Keys {
			got, _ := jtree.Get(n, key)
			ruin(&got)
		}
		for _, now := range []jtree.Node{second, other, n} {
			if !equal(now, project()) {
				t.Fatalf("a node became %s", told(now))
			}
		}
		reads(t, projectText, project())
	}
}

// P14.3: an argument that is changed changes no earlier result; later ones are those of
// the argument as it is then.
func TestChangedArguments(t *testing.T) {
	n := project()
	copied := jtree.Copy(n)
	got, _ := jtree.Get(n, "fourth key")
	text, _ := jtree.Text(n)
	want := jtree.Copy(project().L[3])
	ruin(&n)
	if !equal(copied, project()) || !equal(got, want) || text != projectText {
		t.Errorf("the results became %s, %s, %s", told(copied), told(got), text)
	}
	isNone(t, n)
	n = list(num("1"))
	writes(t, n, "[1]")
	n.L[0].S = "2"
	writes(t, n, "[2]")
	n.L[0].S = "02"
	isNone(t, n)
}

// results is what calls return for random arguments, as a text.
func results(seed int64) string {
	r := rand.New(rand.NewSource(seed))
	var text string
	for range 5 {
		n := anyNode(r, 4)
		s := looseText(r, n, looseString)
		for _, s := range []string{s, mutated(r, s)} {
			read, at, e := jtree.Parse(s)
			text += fmt.Sprintf("%#v %d %d\n", read, at, e)
		}
		for _, m := range []jtree.Node{n, anything(r, 3)} {
			written, e := jtree.Text(m)
			text += fmt.Sprintf("%#v %d %s %d %d %t\n", jtree.Copy(m), jtree.Check(m), written, e, jtree.Count(m), jtree.Same(n, m))
			for _, key := range append([]string{"a"}, m.Keys...) {
				got, ok := jtree.Get(m, key)
				text += fmt.Sprintf("%#v %t\n", got, ok)
			}
		}
	}
	return text
}

// R2: a call returns the same again, after other calls and beside them.
func TestSameResultAgain(t *testing.T) {
	t.Parallel()
	const count = 200
	var all []string
	for seed := range int64(count) {
		all = append(all, results(seed))
	}
	var wait sync.WaitGroup
	for range 4 {
		wait.Go(func() {
			for seed := range int64(count) {
				n, _, e := jtree.Parse(projectText)
				if e != api.OK || !jtree.Same(n, project()) || results(seed) != all[seed] {
					t.Errorf("another result for %d", seed)
				}
			}
		})
	}
	wait.Wait()
}

// R1: with an error, all other results are zero values.
func TestZeroResults(t *testing.T) {
	for _, s := range []string{"", "[1,", `{"a":1`, `"a`, strings.Repeat("[", 61), "[" + strings.Repeat("1,", 4000), strings.Repeat(" ", 1<<20+1)} {
		if n, _, e := jtree.Parse(s); e == api.OK || !reflect.DeepEqual(n, jtree.Node{}) {
			t.Errorf("%.20q: %#v, %d", s, n, e)
		}
	}
	if n, ok := jtree.Get(list(null()), "a"); ok || !reflect.DeepEqual(n, jtree.Node{}) {
		t.Errorf("%#v", n)
	}
}
