package tree_test

import (
	"fmt"
	"strings"
	"testing"

	"signetry/api"
)

// rangesAre checks the ranges of reserved elements, as Lo, Hi and offset.
func rangesAre(t *testing.T, what string, got []api.Span, want string) {
	t.Helper()
	if s := strings.Trim(fmt.Sprint(got), "[]"); s != want {
		t.Errorf("%s: %s, want %s", what, s, want)
	}
}

// P4.1: ranges of messages; the first one starts at 35.
func TestRangesOfMessage(t *testing.T) {
	for s, want := range map[string]string{
		"5;":                           "{5 5 35}",
		"0;":                           "{0 0 35}",
		"5,5,5;":                       "{5 5 35} {5 5 37} {5 5 39}",
		"5 to 5;":                      "{5 5 35}",
		"0 to 0;":                      "{0 0 35}",
		"5 to 6,3;":                    "{5 6 35} {3 3 42}",
		"9,1 to 2,1 to 2;":             "{9 9 35} {1 2 37} {1 2 44}",
		"5 to max;":                    "{5 536870911 35}",
		"0 to max,7;":                  "{0 536870911 35} {7 7 44}",
		"536870911 to max;":            "{536870911 536870911 35}",
		"536870911 to 536870912;":      "{536870911 536870912 35}",
		"2147483648;":                  "{2147483648 2147483648 35}",
		"2147483647 to 2147483648;":    "{2147483647 2147483648 35}",
		"010 to 0x10 , 0X7;":           "{8 16 35} {7 7 49}",
		"1;reserved 2 to 3;;":          "{1 1 35} {2 3 46}",
		"1;int32 to=1;reserved 4;":     "{1 1 35} {4 4 57}",
		"/**/1/**/to/**/2/**/,3// \n;": "{1 2 39} {3 3 56}",
	} {
		m := inMessage(t, "reserved "+s)
		rangesAre(t, s, m.Ranges, want)
		if len(m.Names) != 0 {
			t.Errorf("%s: %v", s, m.Names)
		}
	}
	markedAll(t, "message M{reserved ", "}",
		"@;", "@max;", "@to;", "@to 5;", "@-5;", "@-0;", "@-5 to 5;", "@a;", "@,;", "@.;", "@{}", "@<5>;", "@[5];", "5,@;", "5@", "5@{}", "5,@,", "5,@max;", "5,@-5;", "5,@'a';", "5,@a;",
		"5 @5;", "5 @max;", "5@-6;", "5@.5;", "5@=1;", "5@[json_name='a'];", "5 @TO 6;", "5 @'to' 6;", "5 @until 6;",
		"5 to @;", "5 to @,6;", "5 to @to 6;", "5 to @-6;", "5 to @'max';", "5 to @Max;", "5 to @min;", "5 to @'6';", "5 to 6 @to 7;", "5 to max @to 7;", "5 to max@", "5 to max @max;", "5 to 6@-7;", "5 to 6,@max;", "5 to max,@'a';",
	)
}

// P4.1: ranges of enums, which may be negative; the first one starts at 32.
func TestRangesOfEnum(t *testing.T) {
	for s, want := range map[string]string{
		"5;":                             "{5 5 32}",
		"-5;":                            "{-5 -5 32}",
		"-0;":                            "{0 0 32}",
		"-0 to 0,0 to -0;":               "{0 0 32} {0 0 40}",
		"-5 to -5;":                      "{-5 -5 32}",
		"-9 to -7,7 to 9,-9 to 9;":       "{-9 -7 32} {7 9 41} {-9 9 48}",
		"- /**/ 9 to - 7;":               "{-9 -7 32}",
		"-5,-5,-5;":                      "{-5 -5 32} {-5 -5 35} {-5 -5 38}",
		"5 to max;":                      "{5 2147483647 32}",
		"-5 to max,-1;":                  "{-5 2147483647 32} {-1 -1 42}",
		"-2147483648 to max;":            "{-2147483648 2147483647 32}",
		"2147483647 to max;":             "{2147483647 2147483647 32}",
		"2147483647 to 2147483648;":      "{2147483647 2147483648 32}",
		"-2147483648 to -2147483647;":    "{-2147483648 -2147483647 32}",
		"-2147483648 to 2147483648;":     "{-2147483648 2147483648 32}",
		"536870912 to max;":              "{536870912 2147483647 32}",
		"-0x10 to -010;reserved-1;":      "{-16 -8 32} {-1 -1 54}",
		"1;reserved-2 to 3;;to=1;":       "{1 1 32} {-2 3 42}",
		"-/**/1/**/to/**/2/**/,-// \n3;": "{-1 2 32} {-3 -3 54}",
	} {
		n := inEnum(t, "reserved "+s)
		rangesAre(t, s, n.Ranges, want)
		if len(n.Names) != 0 {
			t.Errorf("%s: %v", s, n.Names)
		}
	}
	markedAll(t, "enum E{reserved ", "}",
		"@;", "@max;", "@to;", "-@;", "-@-5;", "-@max;", "-@'a';", "-@a;", "-@to 5;", "5,@;", "5,-@;", "5,@max;", "5,@'a';", "-5@", "-5 @5;", "5@-6;",
		"5 to @;", "5 to -@;", "-5 to -@max;", "5 to -@-6;", "5 to @'6';", "-5 to @to;", "-5 to -5 @to 5;", "-5 to max @to 7;", "-9 to -7,@max;",
	)
}

// P4.1: ranges that fall, at the first token of their second number.
func TestRangesFall(t *testing.T) {
	for _, before := range []string{"message M{reserved ", "enum E{reserved ", "message M{enum E{reserved "} {
		markedAll(t, before, ";",
			"5 to @4", "5 to @0", "1 to @0", "6 to 7,5 to @4", "5 to 6,6 to @5", "5 to @4,6", "5 to @4,6 to 5", "2147483648 to @2147483647", "2147483648 to @max", "0x10 to @15", "5 to @4 to 6", "5 to @4 max", "5 to @4'a'",
		)
	}
	markedAll(t, "message M{reserved ", ";", "536870912 to @max", "536870912 to @536870911", "1073741824 to @max", "1 to max,536870912 to @max", "2147483648 to @0")
	markedAll(t, "enum E{reserved ", ";",
		"-7 to @-9", "0 to @-1", "5 to @-5", "-1 to @-2", "1 to @-0", "-7 to 7,7 to @-7", "5 to @- /**/ 6", "2147483648 to @-2147483648", "-2147483647 to @-2147483648",
	)
	// The second number is read whole, ahead of what it is worth.
	marked(t, api.ErrSyntax, "enum E{reserved 5 to -@;}")
	marked(t, api.ErrSyntax, "enum E{reserved 5 to -@'a';}")
	marked(t, api.ErrSyntax, "message M{reserved 5 to @-6;}")
}

// P4.1: reserved names are identifiers, and are in no list with ranges.
func TestReservedNames(t *testing.T) {
	longest := strings.Repeat("a", api.MaxIdent)
	for s, want := range map[string]string{
		"'a';":                                 "[{a 35}]",
		`"a",'b' , "\x63" ;`:                   "[{a 35} {b 39} {c 45}]",
		"'a','a';":                             "[{a 35} {a 39}]",
		"'a';reserved'b';reserved 5;":          "[{a 35} {b 47}]",
		"5;reserved'b';":                       "[{b 45}]",
		"'" + longest + "';":                   "[{" + longest + " 35}]",
		"'message','to','max','_','_1','Z_9';": "[{message 35} {to 45} {max 50} {_ 56} {_1 60} {Z_9 65}]",
	} {
		if got := fmt.Sprint(inMessage(t, "reserved "+s).Names); got != want {
			t.Errorf("%s: %s, want %s", s, got, want)
		}
		if got := inEnum(t, "reserved "+s); fmt.Sprint(len(got.Names), got.Names[0].At) != fmt.Sprint(strings.Count(want, "{"), wantAt(s)) {
			t.Errorf("%s: %+v, want as many as %s", s, got, want)
		}
	}
	for _, before := range []string{"message M{reserved ", "enum E{reserved "} {
		markedAll(t, before, "}",
			"@'';", "@'1a';", "@'a.b';", "@'a b';", "@' a';", "@'a-b';", "@';';", "@'5';", "@'\\xc3\\xa4';", "@'a\\n';", "@'"+longest+"b';",
			"'a',@'';", "'a',@'1';", "'a',@5;", "'a',@max;", "'a',@;", "'a',@b;", "'a'@'b';", "'a'@", "'a' @b;", "'a' @to 'b';", "'a' @to max;", "'a'@.b;", "'a'@{}", "@a;", "@a,b;", "5,@'a';", "5 @'a';", "5 to @'a';", "5 to 6,@'a';",
		)
	}
}

// wantAt is where the first name of a reserved element of an enum stands.
func wantAt(s string) int {
	return len(head+"enum E{reserved ") + strings.IndexAny(s, `'"`)
}
