package build_test

import (
	"fmt"
	"math/rand"
	"slices"
	"strings"

	"signetry/api"
	"signetry/check"
	"signetry/files"
	"signetry/print"
	"signetry/scope"
)

// writer makes random units in which nothing is wrong.
type writer struct {
	*rand.Rand
	used map[string]bool
}

// once is one of some texts, with something in front, that was not used before; or
// nothing.
func (w *writer) once(front string, some ...string) string {
	name := pick(w.Rand, some)
	if w.used[front+name] {
		return ""
	}
	w.used[front+name] = true
	return name
}

// randomUnits is up to four units, which import some of those ahead of them.
func randomUnits(r *rand.Rand) (l []api.Unit) {
	w := &writer{r, map[string]bool{}}
	for i := range 1 + r.Intn(4) {
		t := api.Tree{Package: pick(r, []string{"", "p", "p", "p.q", "p.A", "q"})}
		for _, k := range r.Perm(i) {
			if r.Intn(3) > 0 {
				t.Imports = append(t.Imports, api.Import{Path: fmt.Sprint("f", k), Public: r.Intn(2) == 0})
			}
		}
		t.Msgs, t.Enums = w.messages(t.Package, 1), w.enums(t.Package)
		for range r.Intn(3) {
			if name := w.once(t.Package+".", "S", "T", "A", "B"); name != "" {
				t.Svcs = append(t.Svcs, api.SvcDef{Name: name, Rpcs: w.rpcs()})
			}
		}
		l = append(l, api.Unit{Path: fmt.Sprint("f", i), Tree: t})
	}
	for i := range l {
		w.resolveAll(l, i)
	}
	return l
}

func (w *writer) messages(outer string, deep int) (l []api.MsgDef) {
	for range w.Intn(4) {
		name := w.once(outer+".", "A", "B", "C", "N", "a_b")
		if name == "" {
			continue
		}
		m := api.MsgDef{Name: name}
		w.fields(&m)
		if deep < 4 && w.Intn(2) == 0 {
			m.Msgs = w.messages(outer+"."+name, deep+1)
		}
		if w.Intn(3) == 0 {
			m.Enums = w.enums(outer + "." + name)
		}
		m.Ranges, m.Names = w.reserved(40)
		l = append(l, m)
	}
	return l
}

// fields adds fields, some of them in oneofs.
func (w *writer) fields(m *api.MsgDef) {
	names := strings.Fields("a b c a_b a_c _d e1 int32 message reserved")
	w.Shuffle(len(names), func(i, j int) { names[i], names[j] = names[j], names[i] })
	numbers := w.Perm(30)
	for i, name := range names[:w.Intn(len(names))] {
		f := api.FieldDef{Name: name, Num: numbers[i] + 1, Oneof: -1, Card: 1 + w.Intn(4), Type: pick(w.Rand, append(slices.Repeat([]string{"?"}, 12), basic()...))}
		if w.Intn(20) == 0 {
			f.Num = pick(w.Rand, []int{1000 + i, 18999 - i, 20000 + i, 1<<29 - 1 - i})
		}
		if w.Intn(4) == 0 {
			f.Json = "j" + names[len(names)-1-i]
		}
		if f.Card == api.Map {
			f.Key = pick(w.Rand, strings.Fields("int64 uint64 int32 fixed64 fixed32 bool string uint32 sfixed32 sfixed64 sint32 sint64"))
		}
		if last := len(m.Oneofs) - 1; f.Card == api.Opt && w.Intn(2) == 0 {
			if f.Oneof = last; last < 0 || w.Intn(2) == 0 || m.Fields[len(m.Fields)-1].Oneof != last {
				m.Oneofs, f.Oneof = append(m.Oneofs, api.Text{S: names[len(names)-1-len(m.Oneofs)]}), last+1
			}
		}
		m.Fields = append(m.Fields, f)
	}
}

func basic() []string {
	return strings.Fields("double float int64 uint64 int32 fixed64 fixed32 bool string bytes uint32 sfixed32 sfixed64 sint32 sint64")
}

// reserved is ranges and names behind a number, and other than all that is used.
func (w *writer) reserved(n int) (ranges []api.Span, names []api.Text) {
	for range w.Intn(4) {
		from := n + w.Intn(3)
		n = from + 1 + w.Intn(5)
		ranges = append(ranges, api.Span{Lo: from, Hi: n - 1})
	}
	w.Shuffle(len(ranges), func(i, j int) { ranges[i], ranges[j] = ranges[j], ranges[i] })
	for _, i := range w.Perm(5)[:w.Intn(4)] {
		names = append(names, api.Text{S: []string{"r", "R", "_r", "r_", "r1"}[i]})
	}
	return ranges, names
}

func (w *writer) enums(outer string) (l []api.EnumDef) {
	for range w.Intn(3) {
		name := w.once(outer+".", "E", "F", "A", "N")
		if name == "" {
			continue
		}
		n := api.EnumDef{Name: name, Values: []api.ValueDef{{Name: pick(w.Rand, []string{"Z", "z", "message"})}}}
		for i, k := range w.Perm(9)[:w.Intn(5)] {
			n.Values = append(n.Values, api.ValueDef{Name: string(rune('A' + i)), Num: []int{1, 2, 3, 4, -1, -2, -3, -1 << 31, 1<<31 - 1}[k]})
		}
		n.Ranges, n.Names = w.reserved(pick(w.Rand, []int{40, -100}))
		l = append(l, n)
	}
	return l
}

func (w *writer) rpcs() (l []api.RpcDef) {
	for _, i := range w.Perm(3)[:w.Intn(4)] {
		l = append(l, api.RpcDef{Name: []string{"b", "a", "S"}[i], In: "?", Out: "?"})
	}
	return l
}

// resolveAll writes names in the place of each ? in a unit.
func (w *writer) resolveAll(l []api.Unit, i int) {
	u := l[i]
	plain := slices.Clone(l)
	for k := range plain {
		// What is declared resolves, whatever the fields are.
		plain[k].Tree.Imports = l[k].Tree.Imports
		plain[k].Tree.Msgs = withoutFields(l[k].Tree.Msgs)
		plain[k].Tree.Svcs = nil
	}
	all, seen := scope.All(plain), files.Sees(plain, u.Path)
	full := func(outer, name string) string { return strings.TrimPrefix(outer+"."+name, ".") }
	var messages func(outer string, l []api.MsgDef)
	messages = func(outer string, l []api.MsgDef) {
		for _, m := range l {
			for k := range m.Fields {
				f := &m.Fields[k]
				if f.Type == "?" {
					f.Type = w.target(plain, u.Path, full(outer, m.Name), all, seen, true)
				}
				if f.Type == "" {
					f.Type = "int32"
				}
			}
			messages(full(outer, m.Name), m.Msgs)
		}
	}
	messages(u.Tree.Package, u.Tree.Msgs)
	for k, v := range u.Tree.Svcs {
		for j := range v.Rpcs {
			r := &v.Rpcs[j]
			r.In = w.target(plain, u.Path, full(u.Tree.Package, v.Name), all, seen, false)
			r.Out = w.target(plain, u.Path, full(u.Tree.Package, v.Name), all, seen, false)
			if r.In == "" {
				u.Tree.Svcs[k].Rpcs = nil
				break
			}
		}
	}
}

func withoutFields(l []api.MsgDef) (out []api.MsgDef) {
	for _, m := range l {
		out = append(out, api.MsgDef{Name: m.Name, Msgs: withoutFields(m.Msgs), Enums: m.Enums})
	}
	return out
}

// target is a name that means a message, or an enum too, in a scope; or nothing.
func (w *writer) target(l []api.Unit, path, in string, all []api.Symbol, seen []string, enums bool) string {
	for range 10 {
		if len(all) == 0 {
			return ""
		}
		s := pick(w.Rand, all)
		if !slices.Contains(seen, s.Path) || s.Kind == api.SymEnum && !enums {
			continue
		}
		parts := strings.Split(s.Name, ".")
		name := strings.Join(parts[w.Intn(len(parts)):], ".")
		if found, e := scope.Find(l, path, in, name); w.Intn(5) > 0 && e == api.OK && (found.Kind == api.SymMsg || enums) && !slices.Contains(basic(), name) && !isKeyword(name) {
			return name
		}
		return "." + s.Name
	}
	return ""
}

func isKeyword(name string) bool {
	return slices.Contains(strings.Fields("message enum oneof reserved optional repeated map option extensions extend group"), strings.Split(name, ".")[0])
}

// textsOf is the canonical texts of units.
func textsOf(l []api.Unit) (out []api.Source) {
	for _, u := range l {
		s, e := print.Text(u.Tree)
		if e != api.OK {
			panic(fmt.Sprintf("%d: %+v", e, u.Tree))
		}
		out = append(out, api.Source{Path: u.Path, Text: s})
	}
	return out
}

// randomSources is random files in which nothing is wrong.
func randomSources(r *rand.Rand) []api.Source {
	for {
		l := randomUnits(r)
		if _, e := check.First(l); e == api.OK {
			return textsOf(l)
		}
	}
}
