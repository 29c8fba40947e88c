package build_test

import (
	"fmt"
	"regexp"
	"slices"
	"sort"
	"strings"

	"signetry/api"
	"signetry/scope"
	"signetry/text"
)

// secondLink is a second way to link units: all of one kind of element after the
// other, with names resolved by scope.Find.
func secondLink(l []api.Unit) (s api.Set) {
	for _, u := range l {
		f := api.File{Path: u.Path, Package: u.Tree.Package}
		for _, d := range u.Tree.Imports {
			f.Imports = append(f.Imports, api.Import{Path: d.Path, Public: d.Public})
		}
		s.Files = append(s.Files, f)
	}
	for _, x := range scope.All(l) {
		switch x.Kind {
		case api.SymMsg:
			s.Msgs = append(s.Msgs, secondMsg(l, x.Path, x.Name))
		case api.SymEnum:
			s.Enums = append(s.Enums, secondEnum(l, x.Path, x.Name))
		case api.SymSvc:
			s.Svcs = append(s.Svcs, secondSvc(l, x.Path, x.Name))
		}
	}
	return s
}

// within is what is declared in a file with the names of a full name: the names of
// messages, and the last one.
func within(l []api.Unit, path, full string) (t api.Tree, names []string) {
	t = l[slices.IndexFunc(l, func(u api.Unit) bool { return u.Path == path })].Tree
	names = strings.Split(strings.TrimPrefix(strings.TrimPrefix(full, t.Package), "."), ".")
	for len(names) > 1 {
		m := t.Msgs[slices.IndexFunc(t.Msgs, func(m api.MsgDef) bool { return m.Name == names[0] })]
		t, names = api.Tree{Msgs: m.Msgs, Enums: m.Enums}, names[1:]
	}
	return t, names
}

func secondMsg(l []api.Unit, path, full string) api.Msg {
	t, names := within(l, path, full)
	def := t.Msgs[slices.IndexFunc(t.Msgs, func(m api.MsgDef) bool { return m.Name == names[0] })]
	m := api.Msg{Path: path, Name: full}
	for _, d := range def.Fields {
		x := api.Field{Name: d.Name, Json: d.Json, Num: d.Num, Card: d.Card, Oneof: d.Oneof, Type: typeNumber(d.Type), Key: typeNumber(d.Key)}
		if d.Json == "" {
			x.Json = text.Key(d.Name)
		}
		if x.Type == 0 {
			found, e := scope.Find(l, path, full, d.Type)
			x.Type, x.Ref = map[int]int{api.SymMsg: 11, api.SymEnum: 14}[found.Kind], found.Name
			if x.Card == 1 && x.Type == 11 {
				x.Card = 2
			}
			if e != api.OK || x.Type == 0 {
				panic(d.Type)
			}
		}
		m.Fields = append(m.Fields, x)
	}
	sort.Slice(m.Fields, func(i, j int) bool { return m.Fields[i].Num < m.Fields[j].Num })
	for _, o := range def.Oneofs {
		m.Oneofs = append(m.Oneofs, o.S)
	}
	m.Ranges, m.Names = secondReserved(def.Ranges, def.Names)
	return m
}

func typeNumber(name string) int {
	for n := range 20 {
		if typeName(n) == name && n != 11 && n != 14 {
			return n
		}
	}
	return 0
}

func secondReserved(ranges []api.Span, l []api.Text) (out [][2]int, names []string) {
	for _, r := range ranges {
		out = append(out, [2]int{r.Lo, r.Hi})
	}
	for _, x := range l {
		names = append(names, x.S)
	}
	sort.Slice(out, func(i, j int) bool { return out[i][1] < out[j][1] })
	sort.Strings(names)
	return out, names
}

func secondEnum(l []api.Unit, path, full string) api.Enum {
	t, names := within(l, path, full)
	def := t.Enums[slices.IndexFunc(t.Enums, func(n api.EnumDef) bool { return n.Name == names[0] })]
	n := api.Enum{Path: path, Name: full}
	for _, v := range def.Values {
		n.Values = append(n.Values, api.Value{Name: v.Name, Num: v.Num})
	}
	n.Ranges, n.Names = secondReserved(def.Ranges, def.Names)
	return n
}

func secondSvc(l []api.Unit, path, full string) api.Svc {
	t, names := within(l, path, full)
	def := t.Svcs[slices.IndexFunc(t.Svcs, func(v api.SvcDef) bool { return v.Name == names[0] })]
	v := api.Svc{Path: path, Name: full}
	for _, r := range def.Rpcs {
		in, _ := scope.Find(l, path, full, r.In)
		out, _ := scope.Find(l, path, full, r.Out)
		v.Rpcs = append(v.Rpcs, api.Rpc{Name: r.Name, In: in.Name, Out: out.Name})
	}
	return v
}

// rules is what is wrong in a set, as texts: a second way to check sets.
type rules struct {
	s     api.Set
	wrong []string
	sees  map[string]map[string]bool
	files map[string]api.File
	kinds map[string]string
	homes map[string]string
}

// secondWrong is all that is wrong in a set: it is valid if that is nothing.
func secondWrong(s api.Set) []string {
	r := &rules{s: s, sees: map[string]map[string]bool{}, files: map[string]api.File{}, kinds: map[string]string{}, homes: map[string]string{}}
	r.checkFiles()
	r.checkSight()
	r.checkNames()
	for _, m := range s.Msgs {
		r.checkMsg(m)
	}
	for _, n := range s.Enums {
		r.checkEnum(n)
	}
	for _, v := range s.Svcs {
		r.no(len(v.Rpcs) > 64, "many methods")
		names := map[string]bool{}
		for _, c := range v.Rpcs {
			r.no(!ident.MatchString(c.Name), "the name of a method")
			r.no(names[c.Name], "a method twice")
			names[c.Name] = true
			r.checkSeen(v.Path, c.In, "message")
			r.checkSeen(v.Path, c.Out, "message")
		}
	}
	return r.wrong
}

var (
	ident = regexp.MustCompile(`\A[A-Za-z_][A-Za-z0-9_]{0,31}\z`)
	full  = regexp.MustCompile(`\A[A-Za-z_][A-Za-z0-9_]{0,31}(\.[A-Za-z_][A-Za-z0-9_]{0,31})*\z`)
	key   = regexp.MustCompile(`\A[A-Za-z0-9_]{1,32}\z`)
	path  = regexp.MustCompile(`\A[A-Za-z0-9_./-]{1,64}\z`)
)

func (r *rules) no(isWrong bool, what string) {
	if isWrong {
		r.wrong = append(r.wrong, what)
	}
}

func (r *rules) checkFiles() {
	r.no(len(r.s.Files) > 16, "many files")
	for i, f := range r.s.Files {
		r.no(i > 0 && f.Path <= r.s.Files[i-1].Path, "the order of files")
		r.no(!path.MatchString(f.Path), "a path")
		r.no(f.Package != "" && (!full.MatchString(f.Package) || len(f.Package) > 128), "a package")
		r.files[f.Path] = f
	}
}

// checkSight finds which file sees which, and which imports itself: with a matrix
// of what is reached through any imports, and through public ones.
func (r *rules) checkSight() {
	reached, public := map[[2]string]bool{}, map[[2]string]bool{}
	for _, f := range r.s.Files {
		paths := map[string]bool{}
		for _, d := range f.Imports {
			_, isThere := r.files[d.Path]
			r.no(!isThere, "an import of nothing")
			r.no(paths[d.Path], "an import twice")
			r.no(d.At != 0, "an offset")
			paths[d.Path], reached[[2]string{f.Path, d.Path}] = true, true
			public[[2]string{f.Path, d.Path}] = d.Public || public[[2]string{f.Path, d.Path}]
		}
	}
	for _, links := range []map[[2]string]bool{reached, public} {
		for range r.s.Files {
			for a := range r.files {
				for b := range r.files {
					for c := range r.files {
						if links[[2]string{a, b}] && links[[2]string{b, c}] {
							links[[2]string{a, c}] = true
						}
					}
				}
			}
		}
	}
	for a, f := range r.files {
		r.no(reached[[2]string{a, a}], "a circle")
		r.sees[a] = map[string]bool{a: true}
		for _, d := range f.Imports {
			r.sees[a][d.Path] = true
			for b := range r.files {
				if public[[2]string{d.Path, b}] {
					r.sees[a][b] = true
				}
			}
		}
	}
}

func (r *rules) checkNames() {
	add := func(kind string, count int, name func(i int) (path, name string)) {
		r.no(count > 128, "many of a kind")
		last := ""
		for i := range count {
			path, name := name(i)
			r.no(i > 0 && name <= last, "the order of names")
			r.no(r.kinds[name] != "", "a name twice")
			r.kinds[name], r.homes[name], last = kind, path, name
		}
	}
	add("message", len(r.s.Msgs), func(i int) (path, name string) { return r.s.Msgs[i].Path, r.s.Msgs[i].Name })
	add("enum", len(r.s.Enums), func(i int) (path, name string) { return r.s.Enums[i].Path, r.s.Enums[i].Name })
	add("service", len(r.s.Svcs), func(i int) (path, name string) { return r.s.Svcs[i].Path, r.s.Svcs[i].Name })
	for name, kind := range r.kinds {
		f, isThere := r.files[r.homes[name]]
		r.no(!isThere, "no file")
		r.no(!full.MatchString(name) || len(name) > 128, "a name")
		deep := 1
		outer := name
		for {
			parts := strings.Split(outer, ".")
			if outer = strings.Join(parts[:len(parts)-1], "."); outer == f.Package {
				break
			}
			if kind == "service" || outer == "" || r.kinds[outer] != "message" || r.homes[outer] != f.Path {
				r.no(true, "outside of all")
				break
			}
			deep++
		}
		r.no(kind == "message" && deep > 8, "deep")
	}
}

// checkSeen checks that something is declared where a file sees it.
func (r *rules) checkSeen(from, name, kind string) {
	r.no(r.kinds[name] != kind || !r.sees[from][r.homes[name]], kind+" that is not seen")
}

func (r *rules) checkMsg(m api.Msg) {
	r.no(len(m.Fields) > 64, "many fields")
	r.no(len(m.Oneofs) > 16, "many oneofs")
	r.checkReserved(m.Ranges, m.Names, 1, 536870911)
	names, keys, oneofs, last := map[string]bool{}, map[string]bool{}, map[int]bool{}, 0
	for _, x := range m.Fields {
		r.no(x.Num <= last || x.Num >= 1<<29 || x.Num/1000 == 19, "a number")
		r.no(holds(m.Ranges, x.Num), "a number that is reserved")
		r.no(names[x.Name] || !ident.MatchString(x.Name), "the name of a field")
		r.no(keys[x.Json] || !key.MatchString(x.Json), "a key")
		r.no(slices.Contains(m.Names, x.Name) || slices.Contains(m.Names, x.Json), "a name that is reserved")
		names[x.Name], keys[x.Json], oneofs[x.Oneof], last = true, true, true, x.Num
		switch name := typeName(x.Type); {
		case name == "message" || name == "enum":
			r.checkSeen(m.Path, x.Ref, name)
		default:
			r.no(x.Ref != "" || strings.HasPrefix(name, "type "), "a type")
		}
		r.no(x.Card < 1 || x.Card > 4 || x.Card == 1 && x.Type == 11, "a card")
		isKey := strings.Contains(" int64 uint64 int32 fixed64 fixed32 bool string uint32 sfixed32 sfixed64 sint32 sint64 ", " "+typeName(x.Key)+" ")
		r.no(x.Card == 4 && !isKey || x.Card != 4 && x.Key != 0, "the key of a map")
		r.no(x.Oneof < -1 || x.Oneof >= len(m.Oneofs) || x.Oneof >= 0 && x.Card != 2, "the oneof of a field")
	}
	before := map[string]bool{}
	for i, o := range m.Oneofs {
		r.no(!oneofs[i] || before[o] || !ident.MatchString(o), "a oneof")
		before[o] = true
	}
}

// holds tells whether a number is in one of some ranges.
func holds(l [][2]int, n int) bool {
	for _, r := range l {
		if !(n < r[0] || r[1] < n) {
			return true
		}
	}
	return false
}

func (r *rules) checkReserved(ranges [][2]int, names []string, least, most int) {
	r.no(len(ranges) > 64 || len(names) > 64, "many reserved")
	for i, x := range ranges {
		r.no(x[0] < least || x[1] > most || x[0] > x[1], "a range")
		r.no(i > 0 && ranges[i-1][0] >= x[0], "the order of ranges")
		r.no(holds(ranges[:i], x[0]) || holds(ranges[:i], x[1]) || i > 0 && holds([][2]int{x}, ranges[i-1][1]), "ranges that overlap")
	}
	for i, x := range names {
		r.no(!ident.MatchString(x), "a name")
		r.no(i > 0 && names[i-1] >= x, "the order of names")
	}
}

func (r *rules) checkEnum(n api.Enum) {
	r.no(len(n.Values) < 1 || len(n.Values) > 64, "none or many values")
	r.checkReserved(n.Ranges, n.Names, -2147483648, 2147483647)
	names, numbers := map[string]bool{}, map[int]bool{}
	for i, v := range n.Values {
		r.no(i == 0 && v.Num != 0, "no zero")
		r.no(names[v.Name] || !ident.MatchString(v.Name) || v.Name == "option" || v.Name == "reserved", "the name of a value")
		r.no(numbers[v.Num] || v.Num != int(int32(v.Num)), "the number of a value")
		r.no(holds(n.Ranges, v.Num) || slices.Contains(n.Names, v.Name), "a value that is reserved")
		names[v.Name], numbers[v.Num] = true, true
	}
}

// filesOf is files that say what a set does, whatever that is: a set is valid if
// these are built as just that set.
func filesOf(s api.Set) (l []api.Source) {
	for _, f := range s.Files {
		w := &filer{s: s, path: f.Path}
		w.put(head)
		if f.Package != "" {
			w.put("package ", f.Package, ";")
		}
		for _, d := range f.Imports {
			w.put("import ", map[bool]string{true: "public"}[d.Public], text.Quote([]byte(d.Path)), ";")
		}
		w.declare(f.Package)
		for _, v := range s.Svcs {
			if name, isOwn := nameIn(f.Package, v.Name); isOwn && v.Path == f.Path {
				w.put("service ", name, "{")
				for _, r := range v.Rpcs {
					w.put("rpc ", r.Name, "(.", r.In, ")returns(.", r.Out, ");")
				}
				w.put("}")
			}
		}
		l = append(l, api.Source{Path: f.Path, Text: w.String()})
	}
	return l
}

type filer struct {
	strings.Builder
	s    api.Set
	path string
}

func (w *filer) put(parts ...any) {
	fmt.Fprint(w, parts...)
}

// nameIn is the last name of a full one, if that is declared directly in another
// one.
func nameIn(outer, full string) (string, bool) {
	name := full
	if outer != "" {
		rest, isThere := strings.CutPrefix(full, outer+".")
		if !isThere {
			return "", false
		}
		name = rest
	}
	return name, name != "" && !strings.Contains(name, ".")
}

func (w *filer) declare(outer string) {
	for _, m := range w.s.Msgs {
		if name, isOwn := nameIn(outer, m.Name); isOwn && m.Path == w.path {
			w.put("message ", name, "{")
			w.fields(m)
			w.reserved(m.Ranges, m.Names)
			w.declare(m.Name)
			w.put("}")
		}
	}
	for _, n := range w.s.Enums {
		if name, isOwn := nameIn(outer, n.Name); isOwn && n.Path == w.path {
			w.put("enum ", name, "{")
			for _, v := range n.Values {
				w.put(v.Name, "=", v.Num, ";")
			}
			w.reserved(n.Ranges, n.Names)
			w.put("}")
		}
	}
}

func (w *filer) fields(m api.Msg) {
	for i := -1; i < len(m.Oneofs); i++ {
		if i >= 0 {
			w.put("oneof ", m.Oneofs[i], "{")
		}
		for _, x := range m.Fields {
			if x.Oneof == i {
				w.field(x)
			}
		}
		if i >= 0 {
			w.put("}")
		}
	}
}

func (w *filer) field(x api.Field) {
	name := typeName(x.Type)
	if name == "message" || name == "enum" {
		name = "." + x.Ref
	}
	switch {
	case x.Card == api.Map:
		w.put("map<", typeName(x.Key), ",", name, ">")
	case x.Card == api.Rep:
		w.put("repeated ", name, " ")
	case x.Card == api.Opt && x.Oneof == -1:
		w.put("optional ", name, " ")
	default:
		w.put(name, " ")
	}
	w.put(x.Name, "=", x.Num, "[json_name=", text.Quote([]byte(x.Json)), "];")
}

func (w *filer) reserved(ranges [][2]int, names []string) {
	for _, r := range ranges {
		w.put("reserved ", r[0], " to ", r[1], ";")
	}
	for _, x := range names {
		w.put("reserved ", text.Quote([]byte(x)), ";")
	}
}
