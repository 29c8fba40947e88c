package print_test

import (
	"math/rand"
	"strings"
	"testing"

	"signetry/api"
	"signetry/print"
	"signetry/tree"
)

// P5.2: the errors of tree.Parse, at their offsets.
func TestTidyErrors(t *testing.T) {
	long := head + "message M{T a=1[json_name='" + strings.Repeat("k", api.MaxText) + "'];}"
	deep := head + strings.Repeat("message M{", api.MaxDeep+1)
	nameless := head + strings.Repeat("message M{", api.MaxDeep) + "message {"
	for _, c := range []struct {
		s    string
		at   int
		want api.Errno
	}{
		{"", 0, api.ErrSyntax}, {`syntax="proto2";`, 7, api.ErrSyntax}, {head + "@", 16, api.ErrWord},
		{head + "message M{int32 a=1}", 35, api.ErrSyntax}, {head + `message M{reserved "1";}`, 35, api.ErrSyntax},
		{head + `import "\q";`, 23, api.ErrQuote}, {head + "enum E{A=2147483649;}", 25, api.ErrRange},
		{head + strings.Repeat("import'a';", 17), 16 + 160, api.ErrLimit}, {deep, len(deep) - 2, api.ErrDeep},
		{nameless, len(nameless) - 1, api.ErrSyntax}, {nameless[:len(nameless)-1], len(nameless) - 1, api.ErrSyntax},
		{head + "message M{reserved 5 to 4;}", 40, api.ErrSyntax}, {head + "enum E{option=1;}", 23, api.ErrSyntax},
	} {
		fails(t, c.s, c.at, c.want)
	}
	_, at, e := tree.Parse(long)
	fails(t, long, at, e)
	if e != api.ErrLimit {
		t.Errorf("a text of %d bytes: %d, %d", len(long), at, e)
	}
}

// P5.2: what Tidy returns is what Parse and Text return, for texts that are cut
// off, or have some other bytes.
func TestTidyIsParseAndText(t *testing.T) {
	r := rand.New(rand.NewSource(3))
	for seed := range int64(1000) {
		s, _ := print.Text(treeOf(seed))
		for _, s := range []string{s, s[:r.Intn(len(s))], changed(r, s), changed(r, withGaps(r, s))} {
			of, at, e := tree.Parse(s)
			if e != api.OK {
				fails(t, s, at, e)
				continue
			}
			if want, e := print.Text(of); e == api.OK {
				tidies(t, s, want)
			} else {
				fails(t, s, 0, e)
			}
		}
	}
}

// changed is a text with one other byte.
func changed(r *rand.Rand, s string) string {
	b := []byte(s)
	b[r.Intn(len(b))] = pick(r, []byte("a1_ {}[]()<>=;,.-\"'\\/*\n@\x00\xff"))
	return string(b)
}
