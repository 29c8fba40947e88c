package print_test

import (
	"fmt"
	"slices"
	"strings"
	"text/template"

	"signetry/api"
	"signetry/text"
	"signetry/tree"
)

// A second printer, made of templates: they have the lines, without their
// indentation, which is that of the braces. It takes valid trees.
const layout = `
{{- define "file" -}}
syntax = "proto3";
{{with .Package}}package {{.}};
{{end}}{{range .Imports}}import {{if .Public}}public {{end}}{{lit .Path}};
{{end}}{{range .Msgs}}{{template "message" .}}{{end}}{{range .Enums}}{{template "enum" .}}{{end}}{{range .Svcs}}service {{.Name}} {
{{range .Rpcs}}rpc {{.Name}}({{.In}}) returns ({{.Out}});
{{end}}}
{{end}}{{end}}

{{- define "message" -}}
message {{.Name}} {
{{range entries .}}{{if .Oneof}}oneof {{.Oneof}} {
{{range .Fields}}{{template "field" .}}{{end}}}
{{else}}{{range .Fields}}{{cardOf .}}{{template "field" .}}{{end}}{{end}}{{end}}
{{- range .Msgs}}{{template "message" .}}{{end}}{{range .Enums}}{{template "enum" .}}{{end}}
{{- with .Ranges}}reserved {{spans . 536870911}};
{{end}}{{template "names" .}}}
{{end}}

{{- define "field"}}{{if .Key}}map<{{.Key}}, {{.Type}}>{{else}}{{.Type}}{{end}} {{.Name}} = {{.Num}}{{with .Json}} [json_name = {{lit .}}]{{end}};
{{end}}

{{- define "enum" -}}
enum {{.Name}} {
{{range .Values}}{{.Name}} = {{.Num}};
{{end}}{{with .Ranges}}reserved {{spans . 2147483647}};
{{end}}{{template "names" .}}}
{{end}}

{{- define "names"}}{{range $i, $n := .Names}}{{if $i}}, {{else}}reserved {{end}}{{lit $n.S}}{{end}}{{if .Names}};
{{end}}{{end}}`

var layouts = template.Must(template.New("").Funcs(template.FuncMap{
	"lit":     func(s string) string { return text.Quote([]byte(s)) },
	"entries": entries, "cardOf": cardOf, "spans": spans,
}).Parse(layout))

func second(t api.Tree) string {
	var flat strings.Builder
	if err := layouts.ExecuteTemplate(&flat, "file", t); err != nil {
		panic(err)
	}
	var out strings.Builder
	deep := 0
	for line := range strings.Lines(flat.String()) {
		if line == "}\n" {
			deep--
		}
		out.WriteString(strings.Repeat("  ", deep) + line)
		if strings.HasSuffix(line, "{\n") {
			deep++
		}
	}
	return out.String()
}

// entry is a field, or a oneof and its fields.
type entry struct {
	Oneof  string
	Fields []api.FieldDef
}

// entries is those of a message, in order: each oneof has the place of the first
// field that is in it, or in a later one.
func entries(m api.MsgDef) (l []entry) {
	for i := range len(m.Fields) + 1 {
		for o, name := range m.Oneofs {
			place := slices.IndexFunc(m.Fields, func(f api.FieldDef) bool { return f.Oneof >= o })
			if place == i || place < 0 && i == len(m.Fields) {
				in := slices.DeleteFunc(slices.Clone(m.Fields), func(f api.FieldDef) bool { return f.Oneof != o })
				l = append(l, entry{name.S, in})
			}
		}
		if i < len(m.Fields) && m.Fields[i].Oneof < 0 {
			l = append(l, entry{"", m.Fields[i : i+1]})
		}
	}
	return l
}

func cardOf(f api.FieldDef) string {
	return map[int]string{api.One: "", api.Opt: "optional ", api.Rep: "repeated ", api.Map: ""}[f.Card]
}

func spans(l []api.Span, most int) string {
	var out []string
	for _, s := range l {
		out = append(out, fmt.Sprint(s.Lo))
		if s.Lo < s.Hi {
			out[len(out)-1] += " to " + strings.Replace(fmt.Sprint(s.Hi), fmt.Sprint(most), "max", 1)
		}
	}
	return strings.Join(out, ", ")
}

// readable tells whether a tree is one that Parse can return, by its text: the
// first words of the chapter's definition of valid trees.
func readable(t api.Tree) bool {
	got, _, e := tree.Parse(plain(t))
	return e == api.OK && tree.Same(got, t)
}

// plain is a text for a tree, in another order, in few bytes, and without any
// condition: what the text means may be another tree, or nothing.
func plain(t api.Tree) string {
	var b strings.Builder
	b.WriteString(head)
	for _, s := range t.Svcs {
		fmt.Fprintf(&b, "service %s{", s.Name)
		for _, r := range s.Rpcs {
			fmt.Fprintf(&b, "rpc %s(%s)returns(%s){}", r.Name, r.In, r.Out)
		}
		b.WriteString("}")
	}
	plainParts(&b, t.Msgs, t.Enums)
	for _, i := range t.Imports {
		fmt.Fprintf(&b, "import %s%s;", map[bool]string{true: "public"}[i.Public], plainLiteral(i.Path))
	}
	if t.Package != "" {
		fmt.Fprintf(&b, "package %s;", t.Package)
	}
	return b.String()
}

func plainParts(b *strings.Builder, msgs []api.MsgDef, enums []api.EnumDef) {
	for _, n := range enums {
		fmt.Fprintf(b, "enum %s{", n.Name)
		plainReserved(b, n.Ranges, n.Names)
		for _, v := range n.Values {
			fmt.Fprintf(b, "%s=%d;", v.Name, v.Num)
		}
		b.WriteString("}")
	}
	for _, m := range msgs {
		fmt.Fprintf(b, "message %s{", m.Name)
		plainReserved(b, m.Ranges, m.Names)
		plainParts(b, m.Msgs, m.Enums)
		plainFields(b, m)
		b.WriteString("}")
	}
}

func plainReserved(b *strings.Builder, ranges []api.Span, names []api.Text) {
	for _, n := range names {
		fmt.Fprintf(b, "reserved%s;", plainLiteral(n.S))
	}
	for _, s := range ranges {
		fmt.Fprintf(b, "reserved %d to %d;", s.Lo, s.Hi)
	}
}

// plainFields has a oneof for each run of fields that are in the same one, and
// skips to its index with empty ones.
func plainFields(b *strings.Builder, m api.MsgDef) {
	oneof, open := -1, false
	for i, f := range m.Fields {
		inside := f.Oneof >= 0 && f.Oneof < len(m.Oneofs)
		if open && (!inside || f.Oneof != m.Fields[i-1].Oneof) {
			b.WriteString("}")
			open = false
		}
		if inside && !open {
			for oneof = oneof + 1; oneof < f.Oneof; oneof++ {
				fmt.Fprintf(b, "oneof %s{}", m.Oneofs[oneof].S)
			}
			fmt.Fprintf(b, "oneof %s{", m.Oneofs[f.Oneof].S)
			open = true
		}
		plainField(b, f, inside)
	}
	if open {
		b.WriteString("}")
	}
	for _, o := range m.Oneofs[min(oneof+1, len(m.Oneofs)):] {
		fmt.Fprintf(b, "oneof %s{}", o.S)
	}
}

func plainField(b *strings.Builder, f api.FieldDef, inside bool) {
	switch {
	case f.Card == api.Map:
		fmt.Fprintf(b, "map<%s,%s>", f.Key, f.Type)
	case f.Card == api.Rep:
		fmt.Fprintf(b, "repeated %s", f.Type)
	case f.Card == api.Opt && !inside:
		fmt.Fprintf(b, "optional %s", f.Type)
	default:
		b.WriteString(f.Type)
	}
	fmt.Fprintf(b, " %s=%d[json_name=%s];", f.Name, f.Num, plainLiteral(f.Json))
}

// plainLiteral has all bytes as escapes that have two digits.
func plainLiteral(s string) string {
	var b strings.Builder
	for i := range len(s) {
		fmt.Fprintf(&b, `\x%02x`, s[i])
	}
	return "'" + b.String() + "'"
}
