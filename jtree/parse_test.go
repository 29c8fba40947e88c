package jtree_test

import (
	"slices"
	"strings"
	"testing"

	"signetry/api"
	"signetry/jtree"
)

// P14.2: what is parsed.
func TestParse(t *testing.T) {
	for s, n := range map[string]jtree.Node{
		`null`: null(), `true`: yes(), `false`: no(), `0`: num("0"), `-0`: num("-0"), `12`: num("12"), `-9`: num("-9"), `""`: str(""), `"a"`: str("a"),
		`[]`: list(), `{}`: obj(), `[1]`: list(num("1")), `[[],{}]`: list(list(), obj()), `{"a":{"a":{"a":[]}}}`: obj("a", obj("a", obj("a", list()))),
		`["null",null]`: list(str("null"), null()), `{"b":1,"a":2,"c":3}`: obj("b", num("1"), "a", num("2"), "c", num("3")), `{"":""}`: obj("", str("")), `{"\n":"\n"}`: obj("\n", str("\n")),
		`{"\u0061":1,"A":2}`: obj("a", num("1"), "A", num("2")), `[{"a":1},{"a":1}]`: list(obj("a", num("1")), obj("a", num("1"))), `{"a":{"b":1},"b":{"a":1}}`: obj("a", obj("b", num("1")), "b", obj("a", num("1"))),
	} {
		reads(t, s, n)
	}
}

// P14.2: the digits of numbers stay as they are.
func TestParseNumbers(t *testing.T) {
	digits := strings.Repeat("1234567890", 5)
	for count := 1; count <= 40; count++ {
		for _, sign := range []string{"", "-"} {
			s := sign + digits[:count]
			reads(t, s, num(s))
			reads(t, "["+s+","+s+"]", list(num(s), num(s)))
			reads(t, `{"a":`+s+`}`, obj("a", num(s)))
			reads(t, " "+s+"\n", num(s))
		}
	}
	for count := 41; count <= 50; count++ {
		for _, sign := range []string{"", "-"} {
			for _, rest := range []string{"", "1", " ", "x", ".", "-"} {
				s := sign + digits[:count] + rest
				refuses(t, s, 0, api.ErrJson)
				refuses(t, "[1, "+s+",2]", 4, api.ErrJson)
				refuses(t, `{"a":`+s, 5, api.ErrJson)
			}
		}
	}
}

// P14.2: where a number breaks off.
func TestBrokenNumbers(t *testing.T) {
	forty := strings.Repeat("7", 40)
	for _, s := range []string{
		"-^", "-^-", "-^-1", "-^x", "-^ 1", "-^.5", "-^+1", "-^,", "-^]", "-^Infinity", "-^\xff", "^+1", "^.5", "^Infinity", "^NaN", "^a", "^\u0661",
		"0^0", "0^1", "0^9", "0^00", "0^x1", "-0^0", "-0^1", "0^-", "0^.0", "1^.", "1^.5", "1^e5", "1^E5", "1^-", "1^-1", "1^+1", "1 ^1", "1^x", "1^_0", "1^\x00", "1^/", "1^:", "1^\"", "1^[", "1^\u0661",
		"0^" + forty[1:], "0^" + forty, "0^" + forty + forty, "-0^" + forty, forty + "^.", forty + "^e1", "-" + forty + "^x", "-" + forty + "^-",
	} {
		breaks(t, s)
		breaks(t, " "+s)
		breaks(t, "["+s)
		breaks(t, "[1, "+s)
		breaks(t, `{"a": `+s+"}")
	}
}

// P14.2: white space is skipped at each place.
func TestBlanks(t *testing.T) {
	const marked = `_{_"a"_:_[_1_,_-20_,_"x y"_]_,_"b"_:_null_,_"c"_:_{_}_,_"d"_:_[_]_,_"e"_:_{_"f"_:_true_}_}_`
	want := obj("a", list(num("1"), num("-20"), str("x y")), "b", null(), "c", obj(), "d", list(), "e", obj("f", yes()))
	plain := strings.ReplaceAll(marked, "_", "")
	writes(t, want, plain)
	for _, blank := range []string{" ", "\t", "\n", "\r", "\r\n", " \t\n\r \t\n\r", strings.Repeat(" ", 1000)} {
		reads(t, strings.ReplaceAll(marked, "_", blank), want)
		for i, piece := range strings.SplitAfter(marked, "_") {
			if strings.HasSuffix(piece, "_") {
				before := strings.Join(strings.SplitAfter(marked, "_")[:i+1], "")
				s := strings.ReplaceAll(before[:len(before)-1], "_", "") + blank + strings.ReplaceAll(marked[len(before):], "_", "")
				reads(t, s, want)
			}
		}
	}
	for _, blank := range []string{"\v", "\f", "\x00", "\x01", "\b", "\x0e", "\x1f", "\x85", "\xa0", "\u0085", "\u00a0", "\u2028", "\u3000", "\ufeff", "/**/", "//\n", "#", "\\", "\\n", "\x7f", "'"} {
		for at := range len(marked) {
			if marked[at] == '_' {
				before := strings.ReplaceAll(marked[:at], "_", " ")
				refuses(t, before+blank+strings.ReplaceAll(marked[at:], "_", " "), len(before), api.ErrJson)
				refuses(t, before+blank, len(before), api.ErrJson)
				before = strings.ReplaceAll(marked[:at], "_", "")
				refuses(t, before+blank+strings.ReplaceAll(marked[at:], "_", ""), len(before), api.ErrJson)
			}
		}
	}
}

// P14.2: nothing else is in the words.
func TestBrokenWords(t *testing.T) {
	for _, word := range []string{"null", "true", "false"} {
		for i := 1; i < len(word); i++ {
			breaks(t, word[:i]+"^")
			breaks(t, word[:i]+"^]")
			for _, wrong := range []string{" ", "\n", "x", "\"", "\x00", ",", "[", "1", "\xff", strings.ToUpper(word[i : i+1])} {
				breaks(t, word[:i]+"^"+wrong+word[i:])
				breaks(t, "["+word[:i]+"^"+wrong+word[i+1:])
				breaks(t, `{"a":`+word[:i]+"^"+wrong)
				breaks(t, word+"^"+strings.TrimLeft(wrong, " \n")+"x")
			}
		}
		breaks(t, word+"^"+word)
		breaks(t, word+" ^"+word)
		breaks(t, "^"+strings.ToUpper(word))
		breaks(t, "^"+strings.ToUpper(word[:1])+word[1:])
		breaks(t, "{^"+word+":1}")
	}
}

// P14.2: the empty text, and white space alone.
func TestNoNode(t *testing.T) {
	breaks(t, "^")
	for _, blank := range []string{" ", "\t", "\n", "\r", " \n", strings.Repeat("\r\n", 100)} {
		breaks(t, blank+"^")
	}
	for i := range 256 {
		c := string([]byte{byte(i)})
		switch {
		case strings.Contains("0123456789", c):
			reads(t, c, num(c))
		case strings.Contains("-ntf\"[{ \t\n\r", c):
			breaks(t, c+"^")
			breaks(t, "["+c+"^")
		default:
			breaks(t, "^"+c)
			breaks(t, "  ^"+c)
			if c != "]" {
				breaks(t, "[^"+c)
			}
			if c != "}" {
				breaks(t, "{^"+c)
			}
			breaks(t, "[1,^"+c)
			breaks(t, `{"a":^`+c)
		}
	}
}

// P14.2: the first byte with which a text cannot be the beginning of any valid one.
func TestPlaces(t *testing.T) {
	for _, s := range []string{
		`^]`, `^}`, `^,`, `^:`, `[^,`, `[^,]`, `[1^`, `[1^}`, `[1^:1]`, `[1 ^1]`, `[1,^`, `[1,^]`, `[1,^,1]`, `[1^}]`, `[[]^`, `[[] ^[]]`, `[]^]`, `[] ^[]`, `[]^,`, `[^}`, `[^:`,
		`{^`, `{^1:1}`, `{^,}`, `{^:1}`, `{^null:1}`, `{^]`, `{^{}:1}`, `{^[]:1}`, `{^a:1}`, `{^'a':1}`, `{"a"^`, `{"a" ^`, `{"a"^}`, `{"a"^,"b":1}`, `{"a" ^1}`, `{"a"^"b"}`, `{"a":^:1}`,
		`{"a":^`, `{"a":^}`, `{"a":^,`, `{"a":1^`, `{"a":1^]`, `{"a":1 ^"b":2}`, `{"a":1^:2}`, `{"a":1,^`, `{"a":1,^}`, `{"a":1,^,`, `{"a":1,^1}`, `{"a":1,"b"^}`, `{"a":1}^}`, `{"a":1} ^{}`, `{"a":{^]`, `{"a":[^}`,
		`n^`, `nu^`, `nul^`, `n^l`, `nul^x`, `null^x`, `null^null`, `null ^null`, `t^`, `tr^`, `tru^`, `tru^x`, `true^x`, `f^`, `fa^`, `fals^`, `fals^x`, `false^x`, `^N`, `^Null`, `n^ULL`, `^True`, `^FALSE`, `t^alse`, `f^rue`, `n^ot`, `[tru^]`, `[nul^,1]`, `{"a":fals^}`,
		`1^"a"`, `"a"^1`, `"a"^"b"`, `"a"^a`, `"a" ^,`, `[1,2 ^3]`, `{"a":1,"b":[1,{"c":tru^}]}`, `^\"a\"`, `^'a'`, `^/`, `^//`, `[^/**/]`,
	} {
		breaks(t, s)
	}
}

// P14.2: each part of a text is left out, doubled, or in the place of another one.
func TestChangedParts(t *testing.T) {
	parts := []string{`{`, `"a"`, `:`, `[`, `1`, `,`, `-20`, `,`, `"x"`, `,`, `{`, `}`, `]`, `,`, `"b"`, `:`, `null`, `,`, `"c"`, `:`, `[`, `]`, `}`}
	if !likeSecond(t, strings.Join(parts, "")) {
		t.Fatal("not valid")
	}
	valid := 0
	for _, between := range []string{"", " ", "\n\t"} {
		try := func(l []string) {
			if likeSecond(t, strings.Join(l, between)) {
				valid++
			}
		}
		for i := range parts {
			try(slices.Delete(slices.Clone(parts), i, i+1))
			for j := range parts {
				try(slices.Insert(slices.Clone(parts), i, parts[j]))
				l := slices.Clone(parts)
				l[i] = parts[j]
				try(l)
				l = slices.Clone(parts)
				l[i], l[j] = l[j], l[i]
				try(l)
				for k := range parts[:j] {
					try(slices.Concat(parts[:k], parts[j:], parts[:i]))
				}
			}
		}
	}
	if valid < 100 {
		t.Errorf("only %d texts are valid", valid)
	}
}
