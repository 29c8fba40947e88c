package descpb_test

import (
	"bytes"
	"encoding/binary"
	"encoding/hex"
	"fmt"
	"math/rand"
	"strconv"
	"strings"
	"testing"

	"signetry/api"
	"signetry/build"
	"signetry/descpb"
)

// head is what each file begins with.
const head = `syntax="proto3";`

// built is the set of files that are written as lines, "a: message M{}".
func built(t testing.TB, lines ...string) api.Set {
	t.Helper()
	var l []api.Source
	var roots []string
	for _, line := range lines {
		path, rest, _ := strings.Cut(line, ":")
		l, roots = append(l, api.Source{Path: path, Text: head + rest}), append(roots, path)
	}
	s, at, e := build.Build(l, roots)
	if e != api.OK {
		t.Fatalf("%d at %v of %.1000q", e, at, lines)
	}
	return s
}

// record is a record as tests write it. Its tag, and its number or the length of its
// bytes, may have unnecessary bytes.
type record struct {
	num, kind       int
	n               uint64
	text            string
	isPart          bool
	parts           []*record
	longTag, longer int
}

// bytes is the bytes of a record, whether there are such records or not.
func (x *record) bytes() []byte {
	b := longVar(uint64(x.num)<<3|uint64(x.kind), x.longTag)
	switch x.kind {
	case 0:
		return append(b, longVar(x.n, x.longer)...)
	case 1:
		return binary.LittleEndian.AppendUint64(b, x.n)
	case 2:
		body := []byte(x.text)
		if x.isPart {
			body = bytesOf(x.parts)
		}
		return append(append(b, longVar(uint64(len(body)), x.longer)...), body...)
	case 5:
		return binary.LittleEndian.AppendUint32(b, uint32(x.n))
	}
	return b
}

func bytesOf(l []*record) (b []byte) {
	for _, x := range l {
		b = append(b, x.bytes()...)
	}
	return b
}

// longVar is a varint with that many unnecessary bytes.
func longVar(n uint64, more int) []byte {
	b := binary.AppendUvarint(nil, n)
	for range more {
		b[len(b)-1] |= 0x80
		b = append(b, 0)
	}
	return b
}

// records is records that are written as 1:5 (a number), 1"a" (a string) and
// 1{2:5 3:6} (a part).
func records(s string) []*record {
	l, rest := recordsAhead(s)
	if rest != "" {
		panic(fmt.Sprintf("%.100q is left", rest))
	}
	return l
}

func recordsAhead(s string) (l []*record, rest string) {
	for s = strings.TrimLeft(s, " \n\t"); s != "" && s[0] != '}'; s = strings.TrimLeft(s, " \n\t") {
		x := &record{}
		x.num, s = numberAhead(s)
		switch s[0] {
		case ':':
			var n int
			n, s = numberAhead(s[1:])
			x.n = uint64(n)
		case '{':
			x.kind, x.isPart = 2, true
			x.parts, s = recordsAhead(s[1:])
			s = strings.TrimPrefix(s, "}")
		default:
			quoted, err := strconv.QuotedPrefix(s)
			if err != nil {
				panic(fmt.Sprintf("%.100q is no record", s))
			}
			x.kind, s = 2, s[len(quoted):]
			x.text, _ = strconv.Unquote(quoted)
		}
		l = append(l, x)
	}
	return l, s
}

func numberAhead(s string) (int, string) {
	end := len(s) - len(strings.TrimLeft(s, "-0123456789"))
	n, err := strconv.Atoi(s[:end])
	if err != nil {
		panic(fmt.Sprintf("%.100q is no number", s))
	}
	return n, s[end:]
}

// written is the bytes of records that are written like this.
func written(s string) []byte {
	return bytesOf(records(s))
}

// is checks that a set is encoded as these bytes, and that these are decoded as that
// set.
func is(t *testing.T, s api.Set, want []byte) {
	t.Helper()
	if got, e := descpb.Encode(s); e != api.OK || !bytes.Equal(got, want) {
		t.Errorf("%d: %.5000x\nwant %.5000x\nof %.3000s", e, got, want, fmt.Sprint(s))
	}
	if got, e := descpb.Decode(want); e != api.OK || !deepEqual(got, s) || !build.Same(got, s) {
		t.Errorf("%d: %.3000s\nwant %.3000s\nof %.5000x", e, fmt.Sprint(got), fmt.Sprint(s), want)
	}
}

// encodes checks that files are encoded as these records, and decoded from these.
func encodes(t *testing.T, want string, lines ...string) {
	t.Helper()
	is(t, built(t, lines...), written(want))
}

// encodesFile checks that a file a with that text is encoded as these records.
func encodesFile(t *testing.T, text, want string) {
	t.Helper()
	encodes(t, `1{1"a" `+want+` 12"proto3"}`, "a:"+text)
}

// encodesMsg checks that a message M with that text is encoded as these records, and
// what is beside it as others.
func encodesMsg(t *testing.T, text, want, beside, others string) {
	t.Helper()
	encodesFile(t, "message M{"+text+"}"+beside, `4{1"M" `+want+`} `+others)
}

// refuses checks that bytes are those of no set.
func refuses(t *testing.T, what string, b []byte) {
	t.Helper()
	if s, e := descpb.Decode(b); e != api.ErrForm || !deepEqual(s, api.Set{}) {
		t.Errorf("%s: %d and %.1000s of %.1000x", what, e, fmt.Sprint(s), b)
	}
}

// unhex reads bytes that are written in hexadecimal, with blanks anywhere.
func unhex(t *testing.T, s string) []byte {
	t.Helper()
	b, err := hex.DecodeString(strings.ReplaceAll(s, " ", ""))
	if err != nil {
		t.Fatal(err)
	}
	return b
}

// deepEqual tells whether values are equal but for lists that are nil or empty.
func deepEqual(a, b any) bool {
	all := func(v any) string { return strings.ReplaceAll(fmt.Sprintf("%#v", v), "(nil)", "{}") }
	return all(a) == all(b)
}

// many is something as often, in which # is a number from 0 on, with three digits.
func many(count int, s string) string {
	var b strings.Builder
	for i := range count {
		b.WriteString(strings.ReplaceAll(s, "#", fmt.Sprintf("%03d", i)))
	}
	return b.String()
}

// pick is one of some.
func pick[T any](r *rand.Rand, some []T) T {
	return some[r.Intn(len(some))]
}
