package tree_test

import (
	"fmt"
	"reflect"
	"strings"
	"testing"

	"signetry/api"
	"signetry/lex"
	"signetry/tree"
)

const seeds = 1200

// someGaps is what may be between two tokens.
func someGaps() []string {
	return []string{" ", "\t", "\n", "\r\n", "  \t ", "// ;}\n", "/* { */", "/**/", "//\n\n", "/*\"*/ "}
}

// P4.1: the trees of random files, with all their offsets.
func TestRandomTrees(t *testing.T) {
	for seed := range int64(seeds) {
		for _, gaps := range [][]string{nil, {" "}, someGaps()} {
			s, want := fileOf(seed, gaps...)
			parses(t, s, want)
			if t.Failed() {
				return
			}
		}
	}
}

// P4.4: what is between tokens changes offsets, and nothing else.
func TestGapsChangeOffsets(t *testing.T) {
	for seed := range int64(seeds) {
		s, _ := fileOf(seed)
		short := accepts(t, s)
		for _, gaps := range [][]string{{" "}, {"\n"}, {"/*x*/"}, {"//\n"}, someGaps()} {
			s, _ := fileOf(seed, gaps...)
			long := accepts(t, s)
			if !tree.Same(short, long) || told(tree.Bare(short)) != told(tree.Bare(long)) {
				t.Fatalf("seed %d, %q:\n%s\n%s", seed, gaps, told(short), told(long))
			}
		}
	}
}

// P4.4: the same tokens, the same tree, or the same error at the same token.
func TestSameTokens(t *testing.T) {
	texts := samples()
	for seed := range int64(seeds) {
		s, _ := fileOf(seed, someGaps()...)
		texts = append(texts, s, s[:len(s)/2], strings.Replace(s, "{", "(", 1))
	}
	for _, s := range texts {
		words, _, e := lex.Words(s)
		if e != api.OK {
			continue
		}
		joined := lex.Join(words)
		again, _, _ := lex.Words(joined)
		a, at, e := tree.Parse(s)
		b, bAt, bE := tree.Parse(joined)
		if e != bE || !tree.Same(a, b) {
			t.Fatalf("%q: %d, %s, joined: %d, %s", s, e, told(a), bE, told(b))
		}
		for i := range words {
			if e != api.OK && (words[i].At == at) != (again[i].At == bAt) {
				t.Fatalf("%q: %d at %d, joined at %d", s, e, at, bAt)
			}
		}
	}
}

// P4.5: what starts at each offset, and that they increase in each list.
func TestOffsets(t *testing.T) {
	for seed := range int64(seeds) {
		s, _ := fileOf(seed, someGaps()...)
		l, _, _ := lex.Words(s)
		words := map[int]api.Word{}
		for _, w := range l {
			words[w.At] = w
		}
		got := accepts(t, s)
		eachPart(reflect.ValueOf(&got).Elem(), "Tree", func(where string, v reflect.Value) {
			if v.Kind() == reflect.Slice {
				increases(t, where, v)
				return
			}
			if !isOffset(where) {
				return
			}
			w, ok := words[int(v.Int())]
			if !ok || !startsThere(where, w) {
				t.Fatalf("%s: %d, where %v starts, in %q", where, v.Int(), w, s)
			}
		})
	}
}

// increases checks the offsets of a list's elements.
func increases(t *testing.T, where string, l reflect.Value) {
	t.Helper()
	for i := 1; i < l.Len(); i++ {
		a, b := l.Index(i-1), l.Index(i)
		for _, name := range []string{"At", "TypeAt", "NumAt", "InAt", "OutAt"} {
			if x := a.FieldByName(name); x.IsValid() && x.Int() >= b.FieldByName(name).Int() {
				t.Errorf("%s, %d and %d: %s does not increase: %+v", where, i-1, i, name, l)
			}
		}
	}
}

// startsThere tells whether a token of its kind starts at the offset that where
// names.
func startsThere(where string, w api.Word) bool {
	parts := strings.Split(where, ".")
	list, name := parts[len(parts)-2], parts[len(parts)-1]
	switch {
	case name == "TypeAt" || name == "InAt" || name == "OutAt":
		return w.Kind == api.WordIdent || w.Text == "." && w.Kind == api.WordSign
	case name == "NumAt":
		return w.Kind == api.WordNum
	case list == "Imports" || list == "Names":
		return w.Kind == api.WordLit
	case list == "Ranges":
		return w.Kind == api.WordNum || w.Text == "-" && w.Kind == api.WordSign
	}
	return w.Kind == api.WordIdent
}

// isOffset tells whether a part of a tree is an offset.
func isOffset(where string) bool {
	return strings.HasSuffix(where, "At")
}

// eachPart calls visit for all lists, strings, numbers and bools of a tree, with
// the names that lead there.
func eachPart(v reflect.Value, where string, visit func(where string, v reflect.Value)) {
	switch v.Kind() {
	case reflect.Struct:
		for i := range v.NumField() {
			eachPart(v.Field(i), where+"."+v.Type().Field(i).Name, visit)
		}
	case reflect.Slice:
		visit(where, v)
		for i := range v.Len() {
			eachPart(v.Index(i), where, visit)
		}
	default:
		visit(where, v)
	}
}

// The parts of a tree are those that the chapter names; this fails if one of
// them is not reached.
func TestEachPart(t *testing.T) {
	seen := map[string]bool{}
	whole := wholeTree()
	eachPart(reflect.ValueOf(&whole).Elem(), "", func(where string, _ reflect.Value) { seen[where] = true })
	for _, want := range strings.Fields(".Package .Imports.Public .Msgs.Fields.NumAt .Msgs.Msgs.Fields.Json .Msgs.Enums.Values.Num .Enums.Ranges.Hi .Svcs.Rpcs.OutAt .Msgs.Oneofs.At .Enums.Names.S") {
		if !seen[want] {
			t.Errorf("%s is not reached: %s", want, fmt.Sprint(seen))
		}
	}
}
