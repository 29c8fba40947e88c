package tree_test

import (
	"math"
	"slices"
	"strings"

	"signetry/api"
	"signetry/lex"
	"signetry/text"
	"signetry/tree"
)

// grammar is the chapter's table, with its keywords and restrictions as kinds
// of tokens. A symbol in quotes stands for itself; * is any number of, ? is one
// or none.
var grammar = map[string]string{
	"file":      "'syntax' '=' proto3 ';' item* end | 'syntax' '=' proto3 ';' item* package item* end",
	"package":   "'package' full ';'",
	"item":      "'import' 'public'? path ';' | message | enum | service | ';'",
	"full":      "ident more*",
	"more":      "'.' ident",
	"name":      "full | '.' full",
	"message":   "'message' ident '{' inMessage* '}'",
	"inMessage": "'optional' name named | 'repeated' name named | 'map' '<' name ',' name '>' named | '.' full named | firstInMessage more* named | oneof | message | enum | 'reserved' ranges ';' | 'reserved' names ';' | ';'",
	"named":     "ident '=' num json? ';'",
	"json":      "'[' 'json_name' '=' lit ']'",
	"oneof":     "'oneof' ident '{' inOneof* '}'",
	"inOneof":   "'.' full named | firstInOneof more* named | ';'",
	"enum":      "'enum' ident '{' inEnum* '}'",
	"inEnum":    "firstInEnum '=' signed ';' | 'reserved' spans ';' | 'reserved' names ';' | ';'",
	"signed":    "num | '-' num",
	"ranges":    "range | ranges ',' range",
	"range":     "num | num 'to' num | num 'to' 'max'",
	"spans":     "span | spans ',' span",
	"span":      "signed | signed 'to' signed | signed 'to' 'max'",
	"names":     "reservable | names ',' reservable",
	"service":   "'service' ident '{' inService* '}'",
	"inService": "'rpc' ident '(' name ')' 'returns' '(' name ')' ending | ';'",
	"ending":    "';' | '{' '}'",
}

// startNothing is the identifiers that start no field, and no value, without a
// label or a period ahead of them.
var startNothing = map[string][]string{
	"firstInMessage": strings.Fields("message enum oneof reserved optional repeated map option extensions extend group"),
	"firstInOneof":   strings.Fields("option optional repeated map group"),
	"firstInEnum":    strings.Fields("reserved option"),
}

// matches tells whether a token is of a kind.
func matches(kind string, w api.Word) bool {
	if kind[0] == '\'' {
		return (w.Kind == api.WordIdent || w.Kind == api.WordSign) && w.Text == strings.Trim(kind, "'")
	}
	switch kind {
	case "end":
		return w.Kind == api.WordEnd
	case "num":
		return w.Kind == api.WordNum
	case "lit":
		return w.Kind == api.WordLit
	case "proto3":
		return w.Kind == api.WordLit && w.Text == "proto3"
	case "path":
		return w.Kind == api.WordLit && tree.IsPath(w.Text)
	case "reservable":
		return w.Kind == api.WordLit && text.IsIdent(w.Text)
	}
	return w.Kind == api.WordIdent && !slices.Contains(startNothing[kind], w.Text)
}

type rule struct {
	of    string
	parts []string
}

// ruleList is the grammar with a rule for each alternative.
func ruleList() (l []rule) {
	seen := map[string]bool{}
	for of, alternatives := range grammar {
		for _, a := range strings.Split(alternatives, " | ") {
			parts := strings.Fields(a)
			l = append(l, rule{of, parts})
			for _, p := range parts {
				if seen[p] {
					continue
				}
				seen[p] = true
				if base, ok := strings.CutSuffix(p, "*"); ok {
					l = append(l, rule{p, nil}, rule{p, []string{p, base}})
				}
				if base, ok := strings.CutSuffix(p, "?"); ok {
					l = append(l, rule{p, nil}, rule{p, []string{base}})
				}
			}
		}
	}
	return l
}

var (
	rules   = ruleList()
	rulesOf = func() map[string][]int {
		m := map[string][]int{}
		for i, r := range rules {
			m[r.of] = append(m[r.of], i)
		}
		return m
	}()
)

// item is how far a rule has been read, and where its reading began.
type item struct{ rule, dot, from int }

// next is the symbol that an item waits for.
func (i item) next() string {
	if parts := rules[i.rule].parts; i.dot < len(parts) {
		return parts[i.dot]
	}
	return ""
}

// chart reads tokens by all rules at once (as Earley's recognizer does): what
// can no longer become a file is noticed at the first token at which it is so.
type chart struct {
	sets [][]item
}

func newChart() *chart {
	c := &chart{}
	c.add(func(add func(item)) {
		for _, r := range rulesOf["file"] {
			add(item{r, 0, 0})
		}
	})
	return c
}

// add appends the set that begins with these items.
func (c *chart) add(begin func(add func(item))) {
	var set []item
	seen := map[item]bool{}
	add := func(i item) {
		if !seen[i] {
			seen[i] = true
			set = append(set, i)
		}
	}
	here := len(c.sets)
	begin(add)
	for k := 0; k < len(set); k++ {
		i := set[k]
		switch next := i.next(); {
		case next == "":
			waiting := set
			if i.from < here {
				waiting = c.sets[i.from]
			}
			for _, w := range waiting {
				if w.next() == rules[i.rule].of {
					add(item{w.rule, w.dot + 1, w.from})
				}
			}
		case rulesOf[next] != nil:
			for _, r := range rulesOf[next] {
				add(item{r, 0, here})
			}
			if strings.ContainsAny(next, "*?") { // may be nothing
				add(item{i.rule, i.dot + 1, i.from})
			}
		}
	}
	c.sets = append(c.sets, set)
}

// step reads a token, and tells whether it was allowed.
func (c *chart) step(w api.Word) bool {
	last := c.sets[len(c.sets)-1]
	c.add(func(add func(item)) {
		for _, i := range last {
			if next := i.next(); next != "" && rulesOf[next] == nil && matches(next, w) {
				add(item{i.rule, i.dot + 1, i.from})
			}
		}
	})
	return len(c.sets[len(c.sets)-1]) > 0
}

// wants is the kinds of tokens that are allowed next, sorted.
func (c *chart) wants() (l []string) {
	for _, i := range c.sets[len(c.sets)-1] {
		if next := i.next(); next != "" && rulesOf[next] == nil {
			l = append(l, next)
		}
	}
	slices.Sort(l)
	return slices.Compact(l)
}

// secondParse is the first error of a text that keeps to all limits, by other
// means than Parse.
func secondParse(s string) (at int, e api.Errno) {
	words, at, e := lex.Words(s)
	if e != api.OK {
		return at, e
	}
	c := newChart()
	for i, w := range words {
		if !c.step(w) {
			return errorAmong(words, i)
		}
	}
	return errorAmong(words, len(words))
}

// errorAmong is the first range that falls, of those that end ahead of token
// bad; else, that token.
func errorAmong(words []api.Word, bad int) (at int, e api.Errno) {
	for i := 1; i < bad; i++ {
		// Only ranges have a number on either side of a to.
		if words[i].Kind != api.WordIdent || words[i].Text != "to" || words[i-1].Kind != api.WordNum {
			continue
		}
		lo := words[i-1].N
		if words[i-2].Text == "-" {
			lo = -lo
		}
		k, sign := i+1, 1
		if words[k].Text == "-" {
			k, sign = k+1, -1
		}
		if k >= bad {
			break
		}
		hi := sign * words[k].N
		if words[k].Text == "max" {
			hi = math.MaxInt32
			if !insideEnum(words[:i]) {
				hi = 1<<29 - 1
			}
		}
		if hi < lo {
			return words[i+1].At, api.ErrSyntax
		}
	}
	if bad < len(words) {
		return words[bad].At, api.ErrSyntax
	}
	return 0, api.OK
}

// insideEnum tells whether the innermost brace that is open at the end of these
// tokens is that of an enum.
func insideEnum(words []api.Word) bool {
	open := 0
	for i := len(words) - 1; i > 1; i-- {
		switch {
		case words[i].Kind == api.WordSign && words[i].Text == "}":
			open++
		case words[i].Kind == api.WordSign && words[i].Text == "{" && open > 0:
			open--
		case words[i].Kind == api.WordSign && words[i].Text == "{":
			return words[i-2].Text == "enum"
		}
	}
	return false
}
