package jtree_test

import (
	"strings"
	"testing"
	"time"

	"signetry/api"
	"signetry/jtree"
)

// starts is texts with which nodes start, right or not.
var starts = []string{`null`, `n`, `nx`, `true`, `tru`, `false`, `f`, `0`, `00`, `-`, `-x`, `1`, strings.Repeat("1", 41), `""`, `"`, `"\x"`, `"\`, "\"\x00\"", "\"\xff\"", `"\ud83d"`, `[`, `[]`, `[x`, `{`, `{}`, `{"`, `{"a":1,"a":1}`}

// noStarts is texts with which none start, and where something else than a node is.
var noStarts = []string{``, `]`, `}`, `,`, `:`, `x`, `N`, `+1`, `'a'`, "\x00", "\v", "\xff", `\`, `/`, `.5`}

// P14.2: the node with which there are too many is told at its start, whatever follows;
// what starts no node is none.
func TestTooManyNodes(t *testing.T) {
	t.Parallel()
	for _, leaf := range []string{`1`, `null`, `"a"`, `[]`, `{}`, `true`, `-0`} {
		full := "[" + strings.Repeat(leaf+",", 3999)
		reads(t, full[:len(full)-1]+"]", list(times(3999, leafOf(t, leaf))...))
		reads(t, " "+full[:len(full)-1]+"] ", list(times(3999, leafOf(t, leaf))...))
		for _, s := range starts {
			refuses(t, full+s, len(full), api.ErrLimit)
			refuses(t, full+" \n"+s+"]", len(full)+2, api.ErrLimit)
			refuses(t, full+s+",,", len(full), api.ErrLimit)
			// The node before may still have its own errors.
			likeSecond(t, full[:len(full)-len(leaf)-1]+s)
		}
		for _, s := range noStarts {
			refuses(t, full+s, len(full), api.ErrJson)
			refuses(t, full+"  "+s, len(full)+2, api.ErrJson)
		}
	}
	// In other places than a list.
	full := `{"a":[` + strings.Repeat("1,", 3995) + `1],"b":{"c":1`
	reads(t, full+"}}", obj("a", list(times(3996, num("1"))...), "b", obj("c", num("1"))))
	refuses(t, full+`,"d":1}}`, len(full)+5, api.ErrLimit)
	refuses(t, full+`,"d":"\x"}}`, len(full)+5, api.ErrLimit)
	refuses(t, full+`,"d" : [`, len(full)+7, api.ErrLimit)
	refuses(t, full+`},"d":null}`, len(full)+6, api.ErrLimit)
	refuses(t, full+`,"d"1}}`, len(full)+4, api.ErrJson)
	refuses(t, full+`,"c":1}}`, len(full)+1, api.ErrJson)
	refuses(t, full+`,"d":}}`, len(full)+5, api.ErrJson)
	refuses(t, full+`,}}`, len(full)+1, api.ErrJson)
	refuses(t, full+`}} 1`, len(full)+3, api.ErrJson)
	refuses(t, strings.Repeat("[],", 10), 2, api.ErrJson)
}

// leafOf is the node of a text.
func leafOf(t *testing.T, s string) jtree.Node {
	t.Helper()
	n, _, e := jtree.Parse(s)
	if e != api.OK {
		t.Fatalf("%q: %d", s, e)
	}
	return n
}

// P14.2: a node that is too deep is told at its start, whatever follows.
func TestTooDeepNodes(t *testing.T) {
	t.Parallel()
	for _, c := range []struct {
		opening, closing string
		wrap             func(jtree.Node, int) jtree.Node
	}{
		{"[", "]", around}, {`{"k":`, "}", inside}, {" [ ", " ] ", around}, {` { "k" : `, " } ", inside},
	} {
		for deep := 1; deep <= 70; deep++ {
			for _, leaf := range []string{`1`, `null`, `"a"`, `[]`, `{}`, `true`, `-0`} {
				before := strings.Repeat(c.opening, deep-1)
				whole := before + leaf + strings.Repeat(c.closing, deep-1)
				if deep <= 60 {
					reads(t, whole, c.wrap(leafOf(t, leaf), deep-1))
					continue
				}
				rest := strings.TrimLeft(whole[60*len(c.opening):], " ")
				refuses(t, whole, len(whole)-len(rest), api.ErrLimit)
			}
		}
		full := strings.Repeat(c.opening, 60)
		for _, s := range starts {
			refuses(t, full+s, len(full), api.ErrLimit)
			refuses(t, full+" \n"+s, len(full)+2, api.ErrLimit)
			refuses(t, "[1,[[]],"+full[len(c.opening):]+s, len(full)-len(c.opening)+8, api.ErrLimit)
		}
		for _, s := range noStarts {
			if isEmptyList := s == "]" && strings.Contains(c.closing, s); !isEmptyList {
				refuses(t, full+s, len(full), api.ErrJson)
			}
		}
	}
	// The deepest nodes have no parts, but may have keys.
	sixty := strings.Repeat("[", 59)
	reads(t, sixty+"[]"+strings.Repeat("]", 59), around(list(), 59))
	refuses(t, sixty+`{"a":1}`, 64, api.ErrLimit)
	refuses(t, sixty+`{"a"}`, 63, api.ErrJson)
	refuses(t, sixty+`{"\x":1}`, 60, api.ErrJson)
	refuses(t, sixty+`{"a":}`, 64, api.ErrJson)
	// It is as deep again behind each node that has ended.
	reads(t, "["+strings.Repeat(strings.Repeat("[", 59)+strings.Repeat("]", 59)+",", 9)+"1]", list(append(times(9, around(list(), 58)), num("1"))...))
	refuses(t, "[[],"+strings.Repeat("[", 60), 63, api.ErrLimit)
}

// P14.2: too many and too deep at once, and which of several errors comes first.
func TestFirstError(t *testing.T) {
	full := "[" + strings.Repeat("1,", 3940)
	refuses(t, full+strings.Repeat("[", 59), len(full)+59, api.ErrJson)
	refuses(t, full+strings.Repeat("[", 60), len(full)+59, api.ErrLimit)
	full += "1,"
	refuses(t, full+strings.Repeat("[", 60), len(full)+58, api.ErrLimit)
	for _, c := range []struct {
		s  string
		at int
		e  api.Errno
	}{
		{`[1,x,"\x"]`, 3, api.ErrJson}, {`["\x",x]`, 1, api.ErrJson}, {`["a\x"`, 1, api.ErrJson}, {`["a` + "\xff" + `",x`, 1, api.ErrJson}, {`["a` + "\xff" + `,x`, 6, api.ErrJson},
		{`{"a":1,"a":x}`, 7, api.ErrJson}, {`{"a":x,"a":1}`, 5, api.ErrJson}, {`{"a":1,"a` + "\xff" + `":1}`, 7, api.ErrJson}, {`{"a":1 "a":1}`, 7, api.ErrJson}, {`{"a":1,"\x":1,"a":1}`, 7, api.ErrJson},
		{"[" + strings.Repeat("1", 41) + "x", 1, api.ErrJson}, {"[0" + strings.Repeat("1", 41), 2, api.ErrJson}, {"[-0" + strings.Repeat("0", 41), 3, api.ErrJson}, {"[x" + strings.Repeat("1", 41), 1, api.ErrJson},
		{strings.Repeat("[", 60) + "x" + "[", 60, api.ErrJson}, {strings.Repeat("[", 59) + "x" + strings.Repeat("[", 9), 59, api.ErrJson}, {strings.Repeat("[", 61) + "x", 60, api.ErrLimit}, {strings.Repeat("[", 100000), 60, api.ErrLimit},
		{strings.Repeat("{", 100000), 1, api.ErrJson}, {strings.Repeat(`{"a":`, 100000), 300, api.ErrLimit}, {"[" + strings.Repeat("1,", 100000), 7999, api.ErrLimit},
	} {
		refuses(t, c.s, c.at, c.e)
		likeSecond(t, c.s)
	}
}

// P14.2: texts of 2^20 bytes, and of one more.
func TestLongestTexts(t *testing.T) {
	t.Parallel()
	const most = 1 << 20
	sized := func(start, part, end string) string {
		s := start + strings.Repeat(part, (most-len(start)-len(end))/len(part))
		return s + strings.Repeat(" ", most-len(s)-len(end)) + end
	}
	for _, c := range []struct{ start, part, end string }{
		{"1", " ", ""}, {"", "\n", "1"}, {"[", "\t\r", "]"}, {`"`, "a", `"`}, {`"`, "ä", `"`}, {`"`, `\u00e4`, `"`}, {`"`, `\ud83d\ude00`, `"`}, {`{"`, `\n`, `":null}`}, {`["`, "\U0001f600", `"]`},
		{"[1", " ", ",1]"}, {`{"a"`, " ", `:1}`}, {`"`, `\\`, `"`},
	} {
		s := sized(c.start, c.part, c.end)
		if len(s) != most || !likeSecond(t, s) {
			t.Errorf("%s %s %s is not valid", c.start, c.part, c.end)
		}
		refuses(t, s+" ", 0, api.ErrLimit)
		refuses(t, " "+s, 0, api.ErrLimit)
		refuses(t, s+s, 0, api.ErrLimit)
	}
	for _, c := range []struct{ start, part, end string }{
		{"", " ", ""}, {"[", " ", ""}, {`"`, "a", ""}, {`"`, "\xff", ""}, {`"`, "\xff", `"`}, {`"`, "a", `\`}, {`"`, "a", `\u`}, {`"`, "a", "\x00"}, {`"`, "a", `\ud83d"`}, {"[1", " ", "x"}, {"1", "1", ""}, {"-", "0", ""}, {"", "[", ""}, {"[", "1,", ""}, {"", `{"":`, ""}, {"", "x", ""},
	} {
		s := sized(c.start, c.part, c.end)
		if len(s) != most || likeSecond(t, s) {
			t.Errorf("%s %s %s is valid", c.start, c.part, c.end)
		}
		refuses(t, s+"x", 0, api.ErrLimit)
	}
	for _, size := range []int{most + 1, most + 2, 2 * most, 1 << 24} {
		for _, part := range []string{" ", "1", "[", "\"", "x", "\x00"} {
			refuses(t, strings.Repeat(part, size), 0, api.ErrLimit)
		}
	}
}

// R1: the longest texts take no longer than their size asks for.
func TestTime(t *testing.T) {
	const most = 1 << 20
	start := time.Now()
	for _, part := range []string{" ", "\"", "\\", "a", "\\u0041", `\ud83d\ude00`, "1", "-", "[", "[]", "{", "\xff", "\x00", "\\\""} {
		for _, opening := range []string{"", `"`, `["`, `{"`, `{"a":"`, `["",`, `{"a":1,"b":"`} {
			s := opening + strings.Repeat(part, (most-20)/len(part))
			jtree.Parse(s)
			jtree.Parse(s + `"`)
			jtree.Parse(s + `"]`)
		}
	}
	if d := time.Since(start); d > time.Minute {
		t.Errorf("it took %v", d)
	}
}
