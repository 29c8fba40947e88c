package tree_test

import (
	"fmt"
	"math/rand"
	"slices"
	"strings"

	"signetry/api"
	"signetry/text"
)

// writer writes the tokens of a random file, and keeps the tree that the file
// must have. What is between the tokens does not change what it writes.
type writer struct {
	out strings.Builder
	r   *rand.Rand
	gap func() string
}

// put writes a token, and tells where it starts.
func (w *writer) put(s string) int {
	gap := w.gap()
	if all := w.out.String(); gap == "" && all != "" && inWord(all[len(all)-1]) && inWord(s[0]) {
		gap = " "
	}
	w.out.WriteString(gap)
	at := w.out.Len()
	w.out.WriteString(s)
	return at
}

func inWord(c byte) bool {
	return c == '_' || c >= '0' && c <= '9' || c >= 'a' && c <= 'z' || c >= 'A' && c <= 'Z'
}

func (w *writer) puts(l ...string) {
	for _, s := range l {
		w.put(s)
	}
}

func (w *writer) ident() (string, int) {
	s := pick(w.r, append(keywords(), "a", "b", "C", "_", "x_1", "int32", "string", strings.Repeat("q", api.MaxIdent)))
	return s, w.put(s)
}

// identBut is an identifier that is none of these.
func (w *writer) identBut(not []string) (string, int) {
	for {
		s := pick(w.r, append(keywords(), "a", "B"))
		if !slices.Contains(not, s) {
			return s, w.put(s)
		}
	}
}

// num is a number in one of its notations.
func (w *writer) num() (int, int) {
	n := pick(w.r, []int{0, 1, 2, 7, 8, 9, 15, 16, 19000, 1<<29 - 1, 1 << 29, 1<<31 - 1, 1 << 31, w.r.Intn(1 << 31)})
	return n, w.put(w.notation(n))
}

func (w *writer) notation(n int) string {
	return fmt.Sprintf(pick(w.r, []string{"%d", "0%o", "0x%x", "0X%X", "0x00%x"}), n)
}

// signed writes a number, and where there may be a minus sometimes one ahead of
// a 0 too.
func (w *writer) signed(n int, minus bool) int {
	if n < 0 || n == 0 && minus && w.r.Intn(2) == 0 {
		at := w.put("-")
		w.put(w.notation(-n))
		return at
	}
	return w.put(w.notation(n))
}

// literal writes bytes as one of their literals.
func (w *writer) literal(s string) int {
	switch w.r.Intn(3) {
	case 0:
		return w.put(text.Quote([]byte(s)))
	case 1:
		var out strings.Builder
		for i := range len(s) {
			fmt.Fprintf(&out, `\x%02x`, s[i])
		}
		return w.put("'" + out.String() + "'")
	}
	return w.put("'" + strings.Trim(strings.ReplaceAll(text.Quote([]byte(s)), "'", `\'`), `"`) + "'")
}

// name is a name of a type, whose first identifier is none of these if no
// period is ahead of it.
func (w *writer) name(not ...string) (string, int) {
	if w.r.Intn(3) == 0 {
		at := w.put(".")
		rest, _ := w.full(nil)
		return "." + rest, at
	}
	return w.full(not)
}

func (w *writer) full(not []string) (string, int) {
	s, at := w.identBut(not)
	for range w.r.Intn(3) {
		w.put(".")
		more, _ := w.ident()
		s += "." + more
	}
	return s, at
}

func (w *writer) file() (t api.Tree) {
	w.puts("syntax", "=")
	w.literal("proto3")
	w.put(";")
	for range w.r.Intn(8) {
		switch w.r.Intn(7) {
		case 0:
			w.put(";")
		case 1:
			if t.Package == "" {
				w.put("package")
				t.Package, _ = w.full(nil)
				w.put(";")
			}
		case 2:
			t.Imports = append(t.Imports, w.imported())
		case 3, 4:
			t.Msgs = append(t.Msgs, w.message(1))
		case 5:
			t.Enums = append(t.Enums, w.enum())
		case 6:
			t.Svcs = append(t.Svcs, w.service())
		}
	}
	w.out.WriteString(w.gap())
	return t
}

func (w *writer) imported() (i api.Import) {
	w.put("import")
	if i.Public = w.r.Intn(2) == 0; i.Public {
		w.put("public")
	}
	i.Path = pick(w.r, []string{"a", "a/b.proto", "-._/", "public", "5", strings.Repeat("p", api.MaxPath)})
	i.At = w.literal(i.Path)
	w.put(";")
	return i
}

func (w *writer) message(deep int) (m api.MsgDef) {
	w.put("message")
	m.Name, m.At = w.ident()
	w.put("{")
	for range w.r.Intn(7) {
		switch w.r.Intn(8) {
		case 0:
			w.put(";")
		case 1, 2, 3:
			m.Fields = append(m.Fields, w.field())
		case 4:
			o := api.Text{}
			w.put("oneof")
			o.S, o.At = w.ident()
			m.Fields = append(m.Fields, w.choices(len(m.Oneofs))...)
			m.Oneofs = append(m.Oneofs, o)
		case 5:
			if deep < api.MaxDeep {
				m.Msgs = append(m.Msgs, w.message(deep+1))
			}
		case 6:
			m.Enums = append(m.Enums, w.enum())
		case 7:
			w.reserved(&m.Ranges, &m.Names, 0, api.MaxNum)
		}
	}
	w.put("}")
	return m
}

func (w *writer) field() (f api.FieldDef) {
	f.Oneof, f.Card = -1, w.r.Intn(4)+1
	switch f.Card {
	case api.One:
		f.Type, f.TypeAt = w.name(startNothing["firstInMessage"]...)
	case api.Opt:
		w.put("optional")
		f.Type, f.TypeAt = w.name()
	case api.Rep:
		w.put("repeated")
		f.Type, f.TypeAt = w.name()
	case api.Map:
		w.puts("map", "<")
		f.Key, f.TypeAt = w.name()
		w.put(",")
		f.Type, _ = w.name()
		w.put(">")
	}
	w.rest(&f)
	return f
}

// choices is the fields of a oneof, with its braces.
func (w *writer) choices(oneof int) (l []api.FieldDef) {
	w.put("{")
	for range w.r.Intn(4) {
		if w.r.Intn(4) == 0 {
			w.put(";")
		}
		f := api.FieldDef{Card: api.Opt, Oneof: oneof}
		f.Type, f.TypeAt = w.name(startNothing["firstInOneof"]...)
		w.rest(&f)
		l = append(l, f)
	}
	w.put("}")
	return l
}

// rest writes a field from its identifier on.
func (w *writer) rest(f *api.FieldDef) {
	f.Name, f.At = w.ident()
	w.put("=")
	f.Num, f.NumAt = w.num()
	if w.r.Intn(3) == 0 {
		w.puts("[", "json_name", "=")
		f.Json = pick(w.r, []string{"", "a", "json_name", "a b", "\"'\\", "\xff\x00\n", "\xe2\x82\xac", ";", "]"})
		w.literal(f.Json)
		w.put("]")
	}
	w.put(";")
}

func (w *writer) enum() (n api.EnumDef) {
	w.put("enum")
	n.Name, n.At = w.ident()
	w.put("{")
	for range w.r.Intn(6) {
		switch w.r.Intn(4) {
		case 0:
			w.put(";")
		case 1:
			w.reserved(&n.Ranges, &n.Names, -1<<31, 1<<31-1)
		default:
			v := api.ValueDef{Num: w.r.Intn(1<<32+1) - 1<<31}
			v.Name, v.At = w.identBut(startNothing["firstInEnum"])
			w.put("=")
			w.signed(v.Num, true)
			w.put(";")
			n.Values = append(n.Values, v)
		}
	}
	w.put("}")
	return n
}

// reserved writes ranges, of numbers from least on, or names.
func (w *writer) reserved(ranges *[]api.Span, names *[]api.Text, least, most int) {
	w.put("reserved")
	comma := ""
	for range 1 + w.r.Intn(3) {
		if comma != "" {
			w.put(comma)
		}
		comma = ","
		*ranges = append(*ranges, w.span(least, most))
	}
	w.puts(";", "reserved")
	comma = ""
	for range 1 + w.r.Intn(3) {
		if comma != "" {
			w.put(comma)
		}
		comma = ","
		s := pick(w.r, append(keywords(), "a", "_1"))
		*names = append(*names, api.Text{S: s, At: w.literal(s)})
	}
	w.put(";")
}

func (w *writer) span(least, most int) (s api.Span) {
	s.Lo = least + w.r.Intn(most-least+1)
	if w.r.Intn(4) == 0 {
		s.Lo = max(least, min(w.r.Intn(7)-3, most))
	}
	s.Hi = s.Lo
	s.At = w.signed(s.Lo, least < 0)
	switch w.r.Intn(3) {
	case 0:
		s.Hi += w.r.Intn(1<<31 - s.Lo + 1)
		w.put("to")
		w.signed(s.Hi, least < 0)
	case 1:
		s.Hi = most
		w.puts("to", "max")
	}
	return s
}

func (w *writer) service() (s api.SvcDef) {
	w.put("service")
	s.Name, s.At = w.ident()
	w.put("{")
	for range w.r.Intn(4) {
		if w.r.Intn(4) == 0 {
			w.put(";")
		}
		var r api.RpcDef
		w.put("rpc")
		r.Name, r.At = w.ident()
		w.put("(")
		r.In, r.InAt = w.name()
		w.puts(")", "returns", "(")
		r.Out, r.OutAt = w.name()
		w.put(")")
		if w.r.Intn(2) == 0 {
			w.puts("{", "}")
		} else {
			w.put(";")
		}
		s.Rpcs = append(s.Rpcs, r)
	}
	w.put("}")
	return s
}

// fileOf is the file of a seed, and its tree; the gaps between its tokens are
// made of these, or, if there are none, as short as they may be.
func fileOf(seed int64, gaps ...string) (string, api.Tree) {
	between := rand.New(rand.NewSource(seed))
	w := &writer{r: rand.New(rand.NewSource(seed)), gap: func() string {
		if len(gaps) == 0 {
			return ""
		}
		return pick(between, gaps)
	}}
	t := w.file()
	return w.out.String(), t
}
