package descpb_test

import (
	"bytes"
	"fmt"
	"slices"
	"strings"

	"signetry/api"
	"signetry/build"
	"signetry/wire"
)

// secondText is the records of a set, as tests write them: a second way to encode.
func secondText(s api.Set) (out string) {
	for _, f := range s.Files {
		out += "1{" + secondFile(s, f) + "}\n"
	}
	return out
}

func secondFile(s api.Set, f api.File) string {
	out, public := fmt.Sprintf("1%q", f.Path), ""
	if len(f.Package) > 0 {
		out += fmt.Sprintf(" 2%q", f.Package)
	}
	for i, d := range f.Imports {
		out += fmt.Sprintf(" 3%q", d.Path)
		if d.Public {
			public += fmt.Sprintf(" 10:%d", i)
		}
	}
	out += secondMsgs(s, f.Path, f.Package, 4) + secondEnums(s, f.Path, f.Package, 5)
	for _, v := range s.Svcs {
		if name, isHere := nameIn(f.Package, v.Name); isHere && v.Path == f.Path {
			out += fmt.Sprintf(" 6{1%q", name)
			for _, r := range v.Rpcs {
				out += fmt.Sprintf(" 2{1%q 2%q 3%q}", r.Name, "."+r.In, "."+r.Out)
			}
			out += "}"
		}
	}
	return out + public + ` 12"proto3"`
}

// nameIn is the last name of a full one, if that is declared directly in another
// one.
func nameIn(outer, full string) (string, bool) {
	name := full
	if outer != "" {
		rest, isThere := strings.CutPrefix(full, outer+".")
		if !isThere {
			return "", false
		}
		name = rest
	}
	return name, !strings.Contains(name, ".")
}

func secondMsgs(s api.Set, path, outer string, num int) string {
	var out strings.Builder
	for _, m := range s.Msgs {
		if name, isHere := nameIn(outer, m.Name); isHere && m.Path == path {
			fmt.Fprintf(&out, " %d{1%q", num, name)
			entries := ""
			for _, x := range m.Fields {
				field, entry := secondField(m.Name, x)
				out.WriteString(field)
				entries += entry
			}
			out.WriteString(secondMsgs(s, path, m.Name, 3) + entries + secondEnums(s, path, m.Name, 4))
			for _, o := range m.Oneofs {
				fmt.Fprintf(&out, " 8{1%q}", o)
			}
			for _, r := range m.Ranges {
				fmt.Fprintf(&out, " 9{1:%d 2:%d}", r[0], r[1]+1)
			}
			for _, n := range m.Names {
				fmt.Fprintf(&out, " 10%q", n)
			}
			out.WriteString("}")
		}
	}
	return out.String()
}

func secondField(outer string, x api.Field) (field, entry string) {
	what := fmt.Sprintf("4:1 5:%d", x.Type)
	if x.Ref != "" {
		what += fmt.Sprintf(" 6%q", "."+x.Ref)
	}
	after := fmt.Sprintf(" 10%q", x.Json)
	switch {
	case x.Card == api.Map:
		entry = fmt.Sprintf(` 3{1"%dEntry" 2{1"key" 3:1 4:1 5:%d} 2{1"value" 3:2 %s} 7{7:1}}`, x.Num, x.Key, what)
		what = fmt.Sprintf(`4:3 5:11 6".%s.%dEntry"`, outer, x.Num)
	case x.Card == api.Rep:
		what = strings.Replace(what, "4:1", "4:3", 1)
	case x.Oneof >= 0:
		after = fmt.Sprintf(" 9:%d", x.Oneof) + after
	case x.Card == api.Opt && x.Ref == "" || x.Card == api.Opt && x.Type == 14:
		after += " 17:1"
	}
	return fmt.Sprintf(" 2{1%q 3:%d %s%s}", x.Name, x.Num, what, after), entry
}

func secondEnums(s api.Set, path, outer string, num int) (out string) {
	for _, n := range s.Enums {
		if name, isHere := nameIn(outer, n.Name); isHere && n.Path == path {
			out += fmt.Sprintf(" %d{1%q", num, name)
			for _, v := range n.Values {
				out += fmt.Sprintf(" 2{1%q 2:%d}", v.Name, v.Num)
			}
			for _, r := range n.Ranges {
				out += fmt.Sprintf(" 4{1:%d 2:%d}", r[0], r[1])
			}
			for _, x := range n.Names {
				out += fmt.Sprintf(" 5%q", x)
			}
			out += "}"
		}
	}
	return out
}

// secondDecode is a second way to decode: it reads what has to come next, in the only
// order that there is, and compares with nothing that is encoded.
func secondDecode(b []byte) (s api.Set, isSet bool) {
	defer func() {
		if wrong := recover(); wrong != nil {
			if _, isWrong := wrong.(wrongBytes); !isWrong {
				panic(wrong)
			}
			s, isSet = api.Set{}, false
		}
	}()
	x := &strict{set: &s}
	x.open(b)
	x.each(1, x.file)
	x.end()
	slices.SortStableFunc(s.Msgs, func(a, b api.Msg) int { return strings.Compare(a.Name, b.Name) })
	slices.SortStableFunc(s.Enums, func(a, b api.Enum) int { return strings.Compare(a.Name, b.Name) })
	slices.SortStableFunc(s.Svcs, func(a, b api.Svc) int { return strings.Compare(a.Name, b.Name) })
	if build.Check(s) != api.OK {
		return api.Set{}, false
	}
	return s, true
}

type wrongBytes string

// strict reads the records of a part, and has what is around it.
type strict struct {
	rest []api.Rec
	set  *api.Set
	path string
}

func (x *strict) must(isRight bool, what string) {
	if !isRight {
		panic(wrongBytes(what))
	}
}

func (x *strict) open(b []byte) {
	l, e := wire.Split(b)
	x.must(e == api.OK, "records")
	for _, r := range l {
		short, _ := wire.Make(r.Num, r.Wire, r.N, r.B)
		x.must(bytes.Equal(r.Raw, short.Raw), "a long varint")
	}
	x.rest = l
}

func (x *strict) end() {
	x.must(len(x.rest) == 0, "what is left")
}

// has tells whether the next record is of that number and type.
func (x *strict) has(num, kind int) bool {
	return len(x.rest) > 0 && x.rest[0].Num == num && x.rest[0].Wire == kind
}

func (x *strict) take(num, kind int) api.Rec {
	x.must(x.has(num, kind), fmt.Sprint("no record ", num))
	r := x.rest[0]
	x.rest = x.rest[1:]
	return r
}

func (x *strict) text(num int) string { return string(x.take(num, 2).B) }
func (x *strict) number(num int) int  { return int(x.take(num, 0).N) }

// each reads all parts of a number that come next.
func (x *strict) each(num int, read func(x *strict)) {
	for x.has(num, 2) {
		x.part(num, read)
	}
}

func (x *strict) part(num int, read func(x *strict)) {
	inner := &strict{set: x.set, path: x.path}
	inner.open(x.take(num, 2).B)
	read(inner)
	inner.end()
}

func (x *strict) texts(num int) (l []string) {
	for x.has(num, 2) {
		l = append(l, x.text(num))
	}
	return l
}

// full is a full name with a period ahead.
func (x *strict) full(num int) string {
	s := x.text(num)
	x.must(len(s) > 1 && s[0] == '.', "no period")
	return s[1:]
}

func (x *strict) file(in *strict) {
	f := api.File{Path: in.text(1)}
	in.path = f.Path
	if in.has(2, 2) {
		f.Package = in.text(2)
		in.must(f.Package != "", "an empty package")
	}
	for _, path := range in.texts(3) {
		f.Imports = append(f.Imports, api.Import{Path: path})
	}
	in.msgs(4, f.Package)
	in.enums(5, f.Package)
	last := ""
	in.each(6, func(in *strict) {
		v := api.Svc{Path: in.path, Name: in.increasing(&last, f.Package)}
		in.each(2, func(in *strict) {
			v.Rpcs = append(v.Rpcs, api.Rpc{Name: in.text(1), In: in.full(2), Out: in.full(3)})
		})
		in.set.Svcs = append(in.set.Svcs, v)
	})
	before := -1
	for in.has(10, 0) {
		i := in.number(10)
		in.must(i > before && i < len(f.Imports), "an index")
		f.Imports[i].Public, before = true, i
	}
	in.must(in.text(12) == "proto3", "a syntax")
	x.set.Files = append(x.set.Files, f)
}

// increasing is the full name of what comes behind others.
func (x *strict) increasing(last *string, outer string) string {
	name := strings.TrimPrefix(outer+"."+x.text(1), ".")
	x.must(name > *last, "an order")
	*last = name
	return name
}

func (x *strict) msgs(num int, outer string) {
	last := ""
	for x.has(num, 2) && !isEntry(x.rest[0].B) {
		x.part(num, func(in *strict) {
			m := api.Msg{Path: in.path, Name: in.increasing(&last, outer)}
			at := len(in.set.Msgs)
			in.set.Msgs = append(in.set.Msgs, m)
			in.each(2, func(in *strict) { m.Fields = append(m.Fields, in.field(m.Name)) })
			in.msgs(3, m.Name)
			for i := range m.Fields {
				if m.Fields[i].Card == api.Map {
					in.part(3, func(in *strict) { in.entry(&m.Fields[i]) })
				}
			}
			in.enums(4, m.Name)
			in.each(8, func(in *strict) { m.Oneofs = append(m.Oneofs, in.text(1)) })
			in.each(9, func(in *strict) { m.Ranges = append(m.Ranges, [2]int{in.number(1), in.number(2) - 1}) })
			m.Names = in.texts(10)
			in.set.Msgs[at] = m
		})
	}
}

// isEntry tells whether a message is the entry of a map, by its name.
func isEntry(b []byte) bool {
	return len(b) > 2 && b[0] == 0x0a && b[1] > 0 && b[2] >= '0' && b[2] <= '9'
}

func (x *strict) field(outer string) api.Field {
	f := api.Field{Name: x.text(1), Num: x.number(3), Card: map[int]int{1: api.One, 3: api.Rep}[x.number(4)], Type: x.number(5), Oneof: -1}
	x.must(f.Card != 0, "a label")
	if x.has(6, 2) {
		f.Ref = x.full(6)
	}
	if f.Card == api.Rep && f.Type == api.TMsg && f.Ref == fmt.Sprintf("%s.%dEntry", outer, f.Num) {
		f.Card = api.Map
	}
	if x.has(9, 0) {
		f.Oneof = x.number(9)
		x.must(f.Card == api.One && f.Oneof >= 0, "a oneof")
		f.Card = api.Opt
	}
	if f.Card == api.One && f.Type == api.TMsg {
		f.Card = api.Opt
	}
	f.Json = x.text(10)
	if x.has(17, 0) {
		x.must(f.Card == api.One && x.number(17) == 1, "an optional")
		f.Card = api.Opt
	}
	return f
}

func (x *strict) entry(f *api.Field) {
	x.must(x.text(1) == fmt.Sprintf("%dEntry", f.Num), "an entry")
	x.part(2, func(x *strict) {
		x.must(x.text(1) == "key" && x.number(3) == 1 && x.number(4) == 1, "a key")
		f.Key = x.number(5)
	})
	x.part(2, func(x *strict) {
		x.must(x.text(1) == "value" && x.number(3) == 2 && x.number(4) == 1, "a value")
		f.Type, f.Ref = x.number(5), ""
		if x.has(6, 2) {
			f.Ref = x.full(6)
		}
	})
	x.part(7, func(x *strict) { x.must(x.number(7) == 1, "no map") })
}

func (x *strict) enums(num int, outer string) {
	last := ""
	x.each(num, func(in *strict) {
		n := api.Enum{Path: in.path, Name: in.increasing(&last, outer)}
		in.each(2, func(in *strict) { n.Values = append(n.Values, api.Value{Name: in.text(1), Num: in.number(2)}) })
		in.each(4, func(in *strict) { n.Ranges = append(n.Ranges, [2]int{in.number(1), in.number(2)}) })
		n.Names = in.texts(5)
		in.set.Enums = append(in.set.Enums, n)
	})
}
