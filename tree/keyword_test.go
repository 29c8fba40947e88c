package tree_test

import (
	"fmt"
	"slices"
	"strings"
	"testing"

	"signetry/api"
)

// follows is what may stand behind a keyword, some of which would be right
// behind an identifier.
func follows() []string {
	return []string{" a=1;", " .a b=1;", ".a b=1;", " a b=1;", "=1;", "=-1;", " M{}", "<a,b>c=1;", " 5;", " 'a';", "{}", ";", ""}
}

// refusedIn checks that these keywords start nothing, whatever stands behind.
func refusedIn(t *testing.T, before, after string, l ...string) {
	t.Helper()
	for _, k := range l {
		for _, s := range follows() {
			marked(t, api.ErrSyntax, before+"@"+k+s+" "+after)
		}
	}
}

// without is the keywords but these.
func without(l ...string) []string {
	return slices.DeleteFunc(keywords(), func(k string) bool { return slices.Contains(l, k) })
}

// P4.1: the keywords at the beginning of an element of a file.
func TestKeywordsOfFile(t *testing.T) {
	for _, s := range []string{"package p;", "import 'i';", "message M{}", "enum E{}", "service S{}"} {
		accepts(t, head+s)
		accepts(t, head+"message A{}"+s+";")
	}
	refusedIn(t, "", "", without("package", "import", "message", "enum", "service")...)
	refusedIn(t, "message M{}", "enum E{}", without("package", "import", "message", "enum", "service")...)
}

// P4.1: the keywords at the beginning of an element of a message.
func TestKeywordsOfMessage(t *testing.T) {
	for _, s := range []string{"message N{}", "enum E{}", "oneof o{}", "reserved 5;", "reserved'a';", "optional a b=1;", "repeated a b=1;", "map<a,b>c=1;"} {
		inMessage(t, s)
		inMessage(t, "a b=1;"+s+";a c=2;")
	}
	nothing := strings.Fields("option extensions extend group")
	refusedIn(t, "message M{", "}", nothing...)
	refusedIn(t, "message M{a b=1;", "a c=2;}", nothing...)
	refusedIn(t, "message M{message N{", "}}", nothing...)
	// The others that start something start nothing else.
	markedAll(t, "message M{", "}",
		"message@=1;", "message@.a b=1;", "message a @b=1;", "message a@=1;", "enum@=1;", "enum@.a b=1;", "enum a@=1;", "oneof@=1;", "oneof@.a b=1;", "oneof a@=1;",
		"reserved@=1;", "reserved@.a b=1;", "reserved @a=1;", "reserved @max;", "optional@=1;", "repeated@=1;", "optional a@=1;", "repeated a@=1;", "map@=1;", "map@.a b=1;", "map @a=1;",
	)
	for _, k := range without(append(nothing, strings.Fields("message enum oneof reserved optional repeated map")...)...) {
		m := inMessage(t, k+" a=1;"+k+".b c=2;"+k+" "+k+"=3;")
		if len(m.Fields) != 3 || m.Fields[0].Type != k || m.Fields[1].Type != k+".b" || m.Fields[2].Name != k {
			t.Errorf("%s: %+v", k, m)
		}
	}
}

// P4.1: the keywords at the beginning of an element of a oneof.
func TestKeywordsOfOneof(t *testing.T) {
	nothing := strings.Fields("option optional repeated map group")
	refusedIn(t, "message M{oneof o{", "}}", nothing...)
	refusedIn(t, "message M{oneof o{a b=1;", "a c=2;}}", nothing...)
	for _, k := range without(nothing...) {
		m := inMessage(t, "oneof o{"+k+" a=1;"+k+".b c=2;"+k+" "+k+"=3;}")
		if len(m.Fields) != 3 || m.Fields[0].Type != k || m.Fields[1].Type != k+".b" || m.Fields[2].Name != k || m.Fields[2].Oneof != 0 {
			t.Errorf("%s: %+v", k, m)
		}
	}
}

// P4.1: the keywords at the beginning of an element of an enum.
func TestKeywordsOfEnum(t *testing.T) {
	inEnum(t, "reserved 5;A=0;reserved-5;reserved'a';")
	refusedIn(t, "enum E{", "}", "option")
	refusedIn(t, "enum E{A=0;", "B=1;}", "option")
	refusedIn(t, "message M{enum E{", "}}", "option")
	markedAll(t, "enum E{", "}", "reserved@=1;", "reserved@.a=1;", "reserved @a=1;", "reserved @max;", "reserved@;")
	for _, k := range without("reserved", "option") {
		n := inEnum(t, k+"=1;A=2;"+k+"=-3;")
		if len(n.Values) != 3 || n.Values[0].Name != k || n.Values[2].Name != k {
			t.Errorf("%s: %+v", k, n)
		}
	}
}

// P4.1: the keywords at the beginning of an element of a service.
func TestKeywordsOfService(t *testing.T) {
	accepts(t, head+"service S{rpc F(M)returns(N);}")
	refusedIn(t, "service S{", "}", without("rpc")...)
	refusedIn(t, "service S{rpc F(M)returns(N);", "}", without("rpc")...)
}

// P4.1: what is a keyword at the beginning is a name everywhere else.
func TestKeywordsAsNames(t *testing.T) {
	for _, k := range keywords() {
		s := strings.ReplaceAll("package %.%;message %{.% %=1;.%.% %=2;a.% %=3;optional % %=4;optional %.% %=5;repeated % %=6;map<%,%>%=7;map<%.%,.%>%=8;"+
			"oneof %{.% %=9;a.% %=10;}message %{}enum %{}reserved'%';}enum %{A=0;reserved'%';}service %{rpc %(%)returns(%);rpc %(.%.%)returns(%.%){}}", "%", k)
		got := accepts(t, head+s)
		if len(got.Msgs) != 1 || len(got.Msgs[0].Fields) != 10 {
			t.Fatalf("%s: %+v", s, got)
		}
		var types []string
		for _, f := range got.Msgs[0].Fields {
			types = append(types, f.Key+","+f.Type)
			if f.Name != k {
				t.Errorf("%s: %+v", k, f)
			}
		}
		want := strings.ReplaceAll("[,.% ,.%.% ,a.% ,% ,%.% ,% %,% %.%,.% ,.% ,a.%]", "%", k)
		m, v := got.Msgs[0], got.Svcs[0]
		if fmt.Sprint(types) != want || got.Package != k+"."+k || m.Name != k || m.Msgs[0].Name != k || m.Enums[0].Name != k || m.Oneofs[0].S != k || m.Names[0].S != k {
			t.Errorf("%s: %v, %+v", k, types, got)
		}
		if got.Enums[0].Name != k || got.Enums[0].Names[0].S != k || v.Name != k || v.Rpcs[0].Name != k || v.Rpcs[0].Out != k || v.Rpcs[1].In != "."+k+"."+k {
			t.Errorf("%s: %+v", k, got)
		}
	}
}

// P4.1: keywords and signs are no literals, and have no other case.
func TestKeywordsAsLiterals(t *testing.T) {
	for _, s := range samples() {
		l := written(s)
		for k, word := range l {
			if word[0] == '"' || word[0] == '\'' {
				continue
			}
			m := slices.Clone(l)
			m[k] = "'" + word + "'"
			if s := strings.Join(m, " "); agree(t, s) == api.OK {
				t.Error(s)
			}
			if m[k] = strings.ToUpper(word); m[k] != word {
				agree(t, strings.Join(m, " "))
			}
		}
	}
}
