package check_test

import (
	"strings"

	"signetry/api"
	"signetry/lex"
)

// tokenStarts is where the tokens of a text start.
func tokenStarts(s string) (l []int) {
	words, _, e := lex.Words(s)
	if e != api.OK {
		panic(s)
	}
	for _, w := range words {
		l = append(l, w.At)
	}
	return l
}

// spread is a text with gaps between its tokens, and its marks moved along.
func spread(s string, marks []mark) (string, []mark) {
	gaps := []string{" ", "\n", "/* message M{} */", "\t// enum E{\n", "\r\n", "/**/", " \t "}
	var b strings.Builder
	var moved []mark
	starts := tokenStarts(s)
	for i, at := range starts {
		b.WriteString(gaps[i%len(gaps)])
		for _, m := range marks {
			if m.at == at {
				moved = append(moved, mark{b.Len(), m.errors})
			}
		}
		if i+1 < len(starts) {
			b.WriteString(strings.TrimRight(s[at:starts[i+1]], " "))
		}
	}
	if len(moved) != len(marks) {
		panic("a mark that is at no token: " + s)
	}
	return b.String(), moved
}
