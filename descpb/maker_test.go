package descpb_test

import (
	"fmt"
	"math/rand"
	"slices"
	"strings"

	"signetry/api"
	"signetry/build"
)

// maker makes random valid sets.
type maker struct {
	*rand.Rand
	s    api.Set
	used map[string]bool
}

// randomSet is a random valid set of up to four files.
func randomSet(r *rand.Rand) api.Set {
	m := &maker{Rand: r, used: map[string]bool{}}
	m.files()
	for _, f := range m.s.Files {
		m.declare(f.Path, f.Package, 1)
		for range m.Intn(3) {
			if name := m.once(f.Package, "S", "T", "A", "B_"); name != "" {
				m.s.Svcs = append(m.s.Svcs, api.Svc{Path: f.Path, Name: name})
			}
		}
	}
	slices.SortFunc(m.s.Msgs, func(a, b api.Msg) int { return strings.Compare(a.Name, b.Name) })
	slices.SortFunc(m.s.Enums, func(a, b api.Enum) int { return strings.Compare(a.Name, b.Name) })
	slices.SortFunc(m.s.Svcs, func(a, b api.Svc) int { return strings.Compare(a.Name, b.Name) })
	for i := range m.s.Msgs {
		m.fill(&m.s.Msgs[i])
	}
	for i := range m.s.Svcs {
		m.rpcs(&m.s.Svcs[i])
	}
	if build.Check(m.s) != api.OK {
		panic(fmt.Sprintf("not valid: %+v", m.s))
	}
	return m.s
}

// files makes files; each imports some of those ahead of it in a random order.
func (m *maker) files() {
	paths := strings.Fields("a b a/b a.proto Z")[:1+m.Intn(4)]
	m.Shuffle(len(paths), func(i, j int) { paths[i], paths[j] = paths[j], paths[i] })
	for i, path := range paths {
		f := api.File{Path: path, Package: pick(m.Rand, []string{"", "", "p", "p", "p.q", "p.A", "A"})}
		for _, k := range m.Perm(i) {
			if m.Intn(3) > 0 {
				f.Imports = append(f.Imports, api.Import{Path: paths[k], Public: m.Intn(2) == 0})
			}
		}
		m.s.Files = append(m.s.Files, f)
	}
	slices.SortFunc(m.s.Files, func(a, b api.File) int { return strings.Compare(a.Path, b.Path) })
}

// once is the full name of one of some names, if nothing has it; otherwise nothing.
func (m *maker) once(outer string, some ...string) string {
	full := strings.TrimPrefix(outer+"."+pick(m.Rand, some), ".")
	if m.used[full] {
		return ""
	}
	m.used[full] = true
	return full
}

// declare adds messages and enums in a package, or in a message.
func (m *maker) declare(path, outer string, deep int) {
	for range m.Intn(4) {
		name := m.once(outer, "A", "B", "A_", "A1", "a", "N")
		if name == "" {
			continue
		}
		m.s.Msgs = append(m.s.Msgs, api.Msg{Path: path, Name: name})
		if deep < 8 && m.Intn(2) == 0 {
			m.declare(path, name, deep+1)
		}
	}
	for range m.Intn(3) {
		if name := m.once(outer, "E", "F", "A", "N"); name != "" {
			n := api.Enum{Path: path, Name: name, Values: []api.Value{{Name: "Z"}}}
			for i, k := range m.Perm(9)[:m.Intn(5)] {
				n.Values = append(n.Values, api.Value{Name: string(rune('A' + i)), Num: []int{1, 2, 3, 127, 128, -1, -128, -1 << 31, 1<<31 - 1}[k]})
			}
			n.Ranges, n.Names = m.reserved(pick(m.Rand, []int{200, -100}), pick(m.Rand, []int{1000, 1<<31 - 2}))
			n.Ranges = slices.DeleteFunc(n.Ranges, func(r [2]int) bool {
				return slices.ContainsFunc(n.Values, func(v api.Value) bool { return r[0] <= v.Num && v.Num <= r[1] })
			})
			m.s.Enums = append(m.s.Enums, n)
		}
	}
}

// fill gives a message fields and all else.
func (m *maker) fill(msg *api.Msg) {
	names := strings.Fields("a b c a_b a_c _d e1 int32 message reserved key value")
	m.Shuffle(len(names), func(i, j int) { names[i], names[j] = names[j], names[i] })
	numbers := append(m.Perm(30)[:m.Intn(10)], pick(m.Rand, []int{126, 127, 128, 1000, 18999, 20000, 1<<29 - 1}))
	slices.Sort(numbers)
	for i, num := range numbers {
		if num > 0 {
			x := api.Field{Name: names[i], Json: names[i], Num: num, Oneof: -1, Card: 1 + m.Intn(4), Type: pick(m.Rand, []int{1, 2, 3, 4, 5, 6, 7, 8, 9, 11, 11, 11, 12, 13, 14, 14, 14, 15, 16, 17, 18})}
			if m.Intn(3) == 0 {
				x.Json = fmt.Sprint(i)
			}
			m.refer(&x, msg.Path)
			m.choose(&x, msg)
			msg.Fields = append(msg.Fields, x)
		}
	}
	m.Shuffle(len(msg.Oneofs), func(i, j int) { msg.Oneofs[i], msg.Oneofs[j] = msg.Oneofs[j], msg.Oneofs[i] })
	msg.Ranges, msg.Names = m.reserved(40, pick(m.Rand, []int{100, 17000, 1<<29 - 2}))
	msg.Ranges = slices.DeleteFunc(msg.Ranges, func(r [2]int) bool {
		return slices.ContainsFunc(msg.Fields, func(x api.Field) bool { return r[0] <= x.Num && x.Num <= r[1] })
	})
}

// refer gives a field of a message or an enum one that its file sees, or another
// type.
func (m *maker) refer(x *api.Field, path string) {
	var all []string
	switch x.Type {
	case api.TMsg:
		for _, o := range m.s.Msgs {
			if m.sees(path, o.Path) {
				all = append(all, o.Name)
			}
		}
	case api.TEnum:
		for _, o := range m.s.Enums {
			if m.sees(path, o.Path) {
				all = append(all, o.Name)
			}
		}
	default:
		return
	}
	if len(all) == 0 {
		x.Type = api.TBool
		return
	}
	x.Ref = pick(m.Rand, all)
}

// choose makes the card and the oneof of a field valid.
func (m *maker) choose(x *api.Field, msg *api.Msg) {
	switch {
	case x.Card == api.Map:
		x.Key = pick(m.Rand, []int{3, 4, 5, 6, 7, 8, 9, 13, 15, 16, 17, 18})
	case x.Card == api.One && x.Type == api.TMsg:
		x.Card = api.Opt
	}
	if x.Card == api.Opt && m.Intn(2) == 0 {
		x.Oneof = m.Intn(len(msg.Oneofs) + 1)
		if x.Oneof == len(msg.Oneofs) {
			msg.Oneofs = append(msg.Oneofs, fmt.Sprint("o", x.Oneof))
		}
	}
}

// sees tells whether a file sees another one.
func (m *maker) sees(path, other string) bool {
	if path == other {
		return true
	}
	for _, d := range m.file(path).Imports {
		if d.Path == other || m.shows(d.Path, other) {
			return true
		}
	}
	return false
}

func (m *maker) shows(path, other string) bool {
	for _, d := range m.file(path).Imports {
		if d.Public && (d.Path == other || m.shows(d.Path, other)) {
			return true
		}
	}
	return false
}

func (m *maker) file(path string) api.File {
	return m.s.Files[slices.IndexFunc(m.s.Files, func(f api.File) bool { return f.Path == path })]
}

// reserved is ranges from one number on, with one that ends behind another number,
// and names.
func (m *maker) reserved(n, last int) (ranges [][2]int, names []string) {
	for range m.Intn(3) {
		from := n + m.Intn(3)
		n = from + 1 + m.Intn(5)
		ranges = append(ranges, [2]int{from, n - 1})
	}
	if m.Intn(3) == 0 {
		ranges = append(ranges, [2]int{last, last + m.Intn(2)})
	}
	for _, name := range []string{"R", "_r", "r", "r1", "r_"} {
		if m.Intn(4) == 0 {
			names = append(names, name)
		}
	}
	return ranges, names
}

func (m *maker) rpcs(v *api.Svc) {
	var all []string
	for _, o := range m.s.Msgs {
		if m.sees(v.Path, o.Path) {
			all = append(all, o.Name)
		}
	}
	for _, i := range m.Perm(3)[:m.Intn(4)] {
		if len(all) > 0 {
			v.Rpcs = append(v.Rpcs, api.Rpc{Name: []string{"b", "a", "S"}[i], In: pick(m.Rand, all), Out: pick(m.Rand, all)})
		}
	}
}
