package tree_test

import (
	"math/rand"
	"slices"
	"strings"
	"testing"

	"signetry/api"
	"signetry/lex"
	"signetry/tree"
)

// agree checks that a text has the error, or none, that the second parser finds.
func agree(t *testing.T, s string) (e api.Errno) {
	t.Helper()
	got, at, e := tree.Parse(s)
	if wantAt, want := secondParse(s); at != wantAt || e != want {
		t.Fatalf("Parse(%q): %d, %d, want %d, %d", s, at, e, wantAt, want)
	}
	if e != api.OK && told(got) != told(api.Tree{}) {
		t.Fatalf("Parse(%q): %d, and beside it %s", s, e, told(got))
	}
	return e
}

// samples is texts in which each nonterminal stands with all its alternatives.
func samples() []string {
	return []string{
		head, "",
		head + `package a.b.c;;import "x";import public "y/z.proto";`,
		head + `import "x";message A{}enum B{}service C{}package p;;message D{}`,
		head + `message M{int32 a=1;.b.N c=2;optional a.b d=3;repeated .e f=4[json_name="g"];}`,
		head + `message M{map<string,.b.N>c=2;map<.a.b,c>d=0x3[json_name='']; ;}`,
		head + `message M{oneof o{E d=3;;.a.b e=4[json_name="x"];}oneof p{}int32 z=5;}`,
		head + `message M{message N{message O{}enum P{}}enum Q{A=0;}int32 a=1;message R{}}`,
		head + `message M{reserved 5;reserved 1 to 2,7,9 to max;reserved "a",'b';}`,
		head + `enum E{A=0;B=-5;;C=0x7fffffff;reserved 4,-3,-2 to -1,-7 to 8,3 to max,-5 to max;reserved "a","b";}`,
		head + `service S{rpc F(a.M)returns(.b.N);;rpc G(M)returns(N){}rpc H(M)returns(N){};}`,
	}
}

// P4.1: each token of each nonterminal: left out, doubled, in each other's
// place, and another one ahead of it.
func TestOneTokenChanged(t *testing.T) {
	for _, s := range samples() {
		agree(t, s)
		l := written(s)
		try := func(l []string) { agree(t, strings.Join(l, " ")) }
		for i := range l {
			try(l[:i])
			try(slices.Delete(slices.Clone(l), i, i+1))
			try(slices.Insert(slices.Clone(l), i, l[i]))
			for k := range i {
				m := slices.Clone(l)
				m[i], m[k] = m[k], m[i]
				try(m)
			}
			for _, other := range alphabet() {
				m := slices.Clone(l)
				m[i] = other
				try(m)
				try(slices.Insert(slices.Clone(l), i, other))
			}
		}
		for _, other := range alphabet() {
			try(append(slices.Clone(l), other))
		}
	}
}

// P4.1: all short sequences of tokens behind what begins each kind of element.
func TestEveryShortSequence(t *testing.T) {
	for _, start := range []string{
		"", head, head + "package a", head + "import", head + "message M{", head + "message M{int32 a=1", head + "message M{optional", head + "message M{map<a,b>c",
		head + "message M{oneof o{", head + "message M{reserved", head + "message M{reserved 3", head + `message M{reserved "a"`, head + "message M{int32 a=1[",
		head + "enum E{", head + "enum E{A=", head + "enum E{reserved", head + "enum E{reserved-3 to", head + "service S{", head + "service S{rpc F(", head + "service S{rpc F(M)returns(N)",
	} {
		for _, a := range alphabet() {
			for _, b := range alphabet() {
				agree(t, start+" "+a+" "+b)
			}
		}
	}
}

// tokenOf is a token of a kind of the second parser's.
func tokenOf(r *rand.Rand, kind string) string {
	if kind[0] == '\'' {
		return strings.Trim(kind, "'")
	}
	switch kind {
	case "num":
		return pick(r, []string{"0", "1", "2", "3", "07", "0x9", "536870911", "536870912", "2147483647", "2147483648"})
	case "lit":
		return pick(r, []string{`"a"`, `""`, `'\xff'`})
	case "proto3":
		return `'proto3'`
	case "path":
		return `"a/b.proto"`
	case "reservable":
		return pick(r, []string{`"a"`, `"message"`})
	case "end":
		return ""
	}
	for {
		if s := pick(r, append(keywords(), "a", "b", "C")); !slices.Contains(startNothing[kind], s) {
			return s
		}
	}
}

// wordOf is the token that a text is.
func wordOf(s string) api.Word {
	l, _, _ := lex.Words(s)
	return l[0]
}

// anyFile is tokens of which each is most often one that is allowed there.
func anyFile(r *rand.Rand, size int, wrong float64) string {
	c := newChart()
	var out strings.Builder
	for range size {
		s := ""
		if r.Float64() < wrong {
			s = pick(r, alphabet())
		} else {
			s = tokenOf(r, pick(r, c.wants()))
		}
		out.WriteString(s + " ")
		if s == "" || !c.step(wordOf(s)) {
			break
		}
	}
	return out.String() + strings.Repeat("} ", r.Intn(3))
}

// P4.1: long random texts, most of which are right for as long as they last.
func TestRandomFiles(t *testing.T) {
	r := rand.New(rand.NewSource(41))
	seen := map[api.Errno]int{}
	for range 3000 {
		s := anyFile(r, 8+r.Intn(150), 0.02)
		if strings.Count(s, "message") <= api.MaxDeep {
			seen[agree(t, s)]++
		}
	}
	if seen[api.OK] < 100 || seen[api.ErrSyntax] < 100 {
		t.Errorf("too few of a kind: %v", seen)
	}
}
