package tree

import (
	"signetry/api"
)

// stop is what is thrown at the first error, up to Parse.
type stop struct {
	at int
	e  api.Errno
}

// parser goes through tokens. Its methods stop at a token that is not allowed.
type parser struct {
	rest []api.Word // never empty: no rule takes the end
}

// elements is what may stand in a place, by the first token of each.
type elements map[string]func()

// next is the token that is read next.
func (x *parser) next() api.Word {
	return x.rest[0]
}

// pass reads the next token, whatever it is (but for the end).
func (x *parser) pass() api.Word {
	w := x.rest[0]
	x.rest = x.rest[1:]
	return w
}

// refuse stops at the next token, which is not allowed.
func (x *parser) refuse() {
	x.stopHere(api.ErrSyntax)
}

func (x *parser) stopHere(e api.Errno) {
	panic(stop{x.next().At, e})
}

// room stops at the next token, with which an element starts, if there are
// already as many of its kind as there may be.
func (x *parser) room(count, most int) {
	if count >= most {
		x.stopHere(api.ErrLimit)
	}
}

// says is what the next token says for itself: of a literal it is nothing,
// because its value may look like a keyword, or a sign.
func (x *parser) says() string {
	if x.next().Kind == api.WordLit {
		return ""
	}
	return x.next().Text
}

// takes reads the next token if it is this keyword, or sign.
func (x *parser) takes(s string) bool {
	if x.says() != s {
		return false
	}
	x.pass()
	return true
}

// expect reads these keywords and signs.
func (x *parser) expect(l ...string) {
	for _, s := range l {
		if !x.takes(s) {
			x.refuse()
		}
	}
}

// of reads a token of that kind.
func (x *parser) of(kind int) api.Word {
	if x.next().Kind != kind {
		x.refuse()
	}
	return x.pass()
}

// literal reads a literal whose value fits.
func (x *parser) literal(fits func(string) bool) api.Word {
	if !fits(x.next().Text) {
		x.refuse()
	}
	return x.of(api.WordLit)
}

// number reads a number, which may have a minus if it may be negative.
func (x *parser) number(signed bool) int {
	if signed && x.takes("-") {
		return -x.of(api.WordNum).N
	}
	return x.of(api.WordNum).N
}

// name reads the name of a type, and where it starts.
func (x *parser) name() (s string, at int) {
	at = x.next().At
	var start []byte
	if x.takes(".") {
		start = append(start, '.')
	}
	return x.full(start, at), at
}

// full reads identifiers with periods between them: the rest of a name of which
// start has been read, and which starts there. The limit comes after all of it,
// so that a name that breaks off is that, however long it is.
func (x *parser) full(start []byte, at int) string {
	b := append(start, x.of(api.WordIdent).Text...)
	for x.takes(".") {
		b = append(b, '.')
		b = append(b, x.of(api.WordIdent).Text...)
	}
	if len(b) > api.MaxFull {
		panic(stop{at, api.ErrLimit})
	}
	return string(b)
}

// block reads elements in braces; other reads those that start with no token of
// its own.
func (x *parser) block(known elements, other func()) {
	x.expect("{")
	for !x.takes("}") {
		x.element(known, other)
	}
}

func (x *parser) element(known elements, other func()) {
	if read, ok := known[x.says()]; ok {
		read()
		return
	}
	other()
}

// empty reads an element that is only a semicolon.
func (x *parser) empty() {
	x.expect(";")
}
