package check_test

import (
	"regexp"
	"slices"
	"sort"
	"strings"

	"signetry/api"
	"signetry/scope"
)

// second is a second way to check units: rule by rule over all of its elements,
// with what was met before in maps. Names are resolved by scope.Find.
type second struct {
	l     []api.Unit
	wrong map[api.Wrong]bool
}

// secondAll is what All has to return for valid units.
func secondAll(l []api.Unit) (all []api.Wrong) {
	s := &second{l, map[api.Wrong]bool{}}
	s.symbols()
	for _, u := range l {
		s.messages(u.Path, u.Tree.Package, u.Tree.Msgs)
		s.enums(u.Path, u.Tree.Enums)
		s.services(u.Path, u.Tree)
	}
	for w := range s.wrong {
		all = append(all, w)
	}
	sort.Slice(all, func(i, j int) bool {
		a, b := all[i], all[j]
		if a.Path != b.Path {
			return a.Path < b.Path
		}
		if a.At != b.At {
			return a.At < b.At
		}
		return a.E < b.E
	})
	return all
}

func (s *second) say(path string, at int, e api.Errno) {
	s.wrong[api.Wrong{Path: path, At: at, E: e}] = true
}

func (s *second) symbols() {
	names, kinds := map[string]int{}, map[int]int{}
	for _, x := range scope.All(s.l) {
		if len(x.Name) >= 129 {
			s.say(x.Path, x.At, api.ErrLimit)
		}
		if names[x.Name]++; names[x.Name] > 1 {
			s.say(x.Path, x.At, api.ErrTwice)
		}
		if kinds[x.Kind]++; kinds[x.Kind] > 128 {
			s.say(x.Path, x.At, api.ErrLimit)
		}
	}
}

// secondKey is the key of a field.
func secondKey(f api.FieldDef) string {
	if f.Json != "" {
		return f.Json
	}
	parts := strings.Split(f.Name, "_")
	for i, part := range parts[1:] {
		if part != "" && part[0] >= 'a' && part[0] <= 'z' {
			parts[i+1] = strings.ToUpper(part[:1]) + part[1:]
		}
	}
	return strings.Join(parts, "")
}

// inside tells whether a number is reserved.
func inside(l []api.Span, n int) bool {
	for _, r := range l {
		if !(n < r.Lo || r.Hi < n) {
			return true
		}
	}
	return false
}

func listed(l []api.Text, name string) bool {
	for _, x := range l {
		if x.S == name {
			return true
		}
	}
	return false
}

func (s *second) messages(path, outer string, l []api.MsgDef) {
	for _, m := range l {
		full := strings.TrimPrefix(outer+"."+m.Name, ".")
		names, numbers, keys, oneofs, used := map[string]bool{}, map[int]bool{}, map[string]bool{}, map[string]bool{}, map[int]bool{}
		for _, f := range m.Fields {
			key := secondKey(f)
			if names[f.Name] {
				s.say(path, f.At, api.ErrTwice)
			}
			if numbers[f.Num] || f.Num < 1 || f.Num >= 1<<29 || f.Num/1000 == 19 {
				s.say(path, f.NumAt, api.ErrNumber)
			}
			if inside(m.Ranges, f.Num) {
				s.say(path, f.NumAt, api.ErrReserved)
			}
			if listed(m.Names, f.Name) || listed(m.Names, key) {
				s.say(path, f.At, api.ErrReserved)
			}
			if keys[key] || !regexp.MustCompile(`\A[A-Za-z0-9_]{1,32}\z`).MatchString(key) {
				s.say(path, f.At, api.ErrKey)
			}
			if !slices.Contains(basic(), f.Type) {
				switch x, e := scope.Find(s.l, path, full, f.Type); {
				case e != api.OK:
					s.say(path, f.TypeAt, api.ErrName)
				case x.Kind == api.SymSvc:
					s.say(path, f.TypeAt, api.ErrKind)
				}
			}
			if f.Card == api.Map && (!slices.Contains(basic(), f.Key) || f.Key == "float" || f.Key == "double" || f.Key == "bytes") {
				s.say(path, f.TypeAt, api.ErrKind)
			}
			names[f.Name], numbers[f.Num], keys[key], used[f.Oneof] = true, true, true, true
		}
		for i, o := range m.Oneofs {
			if oneofs[o.S] {
				s.say(path, o.At, api.ErrTwice)
			}
			if !used[i] {
				s.say(path, o.At, api.ErrSyntax)
			}
			oneofs[o.S] = true
		}
		s.reserved(path, m.Ranges, m.Names, 1, 1<<29-1)
		s.messages(path, full, m.Msgs)
		s.enums(path, m.Enums)
	}
}

// reserved finds what ranges have in common by their ends: one of two has an end
// in the other one.
func (s *second) reserved(path string, ranges []api.Span, l []api.Text, least, most int) {
	for i, r := range ranges {
		isWrong := r.Lo < least || r.Hi > most
		for _, o := range ranges[:i] {
			both := []api.Span{r, o}
			isWrong = isWrong || inside(both[:1], o.Lo) || inside(both[:1], o.Hi) || inside(both[1:], r.Lo) || inside(both[1:], r.Hi)
		}
		if isWrong {
			s.say(path, r.At, api.ErrNumber)
		}
	}
	for i, x := range l {
		if listed(l[:i], x.S) {
			s.say(path, x.At, api.ErrTwice)
		}
	}
}

func (s *second) enums(path string, l []api.EnumDef) {
	for _, n := range l {
		names, numbers := map[string]bool{}, map[int]bool{}
		for i, v := range n.Values {
			if i == 0 && v.Num != 0 {
				s.say(path, n.At, api.ErrZero)
			}
			if names[v.Name] {
				s.say(path, v.At, api.ErrTwice)
			}
			if numbers[v.Num] || v.Num != int(int32(v.Num)) {
				s.say(path, v.At, api.ErrNumber)
			}
			if inside(n.Ranges, v.Num) || listed(n.Names, v.Name) {
				s.say(path, v.At, api.ErrReserved)
			}
			names[v.Name], numbers[v.Num] = true, true
		}
		if n.Values == nil {
			s.say(path, n.At, api.ErrZero)
		}
		s.reserved(path, n.Ranges, n.Names, -1<<31, 1<<31-1)
	}
}

func (s *second) services(path string, t api.Tree) {
	for _, v := range t.Svcs {
		names := map[string]bool{}
		for _, r := range v.Rpcs {
			if names[r.Name] {
				s.say(path, r.At, api.ErrTwice)
			}
			names[r.Name] = true
			for at, name := range map[int]string{r.InAt: r.In, r.OutAt: r.Out} {
				switch x, e := scope.Find(s.l, path, strings.TrimPrefix(t.Package+"."+v.Name, "."), name); {
				case e != api.OK:
					s.say(path, at, api.ErrName)
				case x.Kind != api.SymMsg:
					s.say(path, at, api.ErrKind)
				}
			}
		}
	}
}
