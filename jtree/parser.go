package jtree

import (
	"strings"

	"signetry/api"
)

// stop is what is thrown at the first error, up to Parse.
type stop struct {
	at int
	e  api.Errno
}

// parser goes through a text. Its methods stop at what is not allowed.
type parser struct {
	s          string
	at         int
	many, deep int                  // how many nodes were begun, and how many are not ended
	readers    map[byte]func() Node // what reads a node, by its first byte
}

func newParser(s string) *parser {
	p := &parser{s: s}
	p.readers = map[byte]func() Node{
		'n': p.readNull, 'f': p.readFalse, 't': p.readTrue,
		'"': p.readString, '[': p.readList, '{': p.readObject,
	}
	number := p.readNumber
	for _, c := range []byte("-0123456789") {
		p.readers[c] = number
	}
	return p
}

// refuse stops at an offset at which there is something that is not allowed.
func (p *parser) refuse(at int) {
	panic(stop{at, api.ErrJson})
}

// next is the byte that is read next. At the end it is 0, a byte that is allowed
// nowhere.
func (p *parser) next() byte {
	if p.at == len(p.s) {
		return 0
	}
	return p.s[p.at]
}

// pass reads the next byte, whatever it is (but not the end).
func (p *parser) pass() byte {
	c := p.s[p.at]
	p.at++
	return c
}

// takes reads the next byte if it is this one.
func (p *parser) takes(c byte) bool {
	if p.next() != c {
		return false
	}
	p.at++
	return true
}

// expect reads these bytes.
func (p *parser) expect(s string) {
	for i := range len(s) {
		if !p.takes(s[i]) {
			p.refuse(p.at)
		}
	}
}

// skip skips white space.
func (p *parser) skip() {
	for p.takes(' ') || p.takes('\t') || p.takes('\n') || p.takes('\r') {
	}
}

// readWhole reads the node that is the whole text.
func (p *parser) readWhole() Node {
	n := p.readNode()
	p.skip()
	if p.at < len(p.s) {
		p.refuse(p.at)
	}
	return n
}

// readNode reads any node. That there is no room for it is told at its first byte,
// whatever follows.
func (p *parser) readNode() Node {
	p.skip()
	read, isKnown := p.readers[p.next()]
	if !isKnown {
		p.refuse(p.at)
	}
	p.many++
	p.deep++
	if p.many > api.MaxNodes || p.deep > mostDeep {
		panic(stop{p.at, api.ErrLimit})
	}
	n := read()
	p.deep--
	return n
}

func (p *parser) readNull() Node  { return p.readWord(KNull) }
func (p *parser) readFalse() Node { return p.readWord(KFalse) }
func (p *parser) readTrue() Node  { return p.readWord(KTrue) }

func (p *parser) readWord(kind int) Node {
	p.expect(word(kind))
	return Node{Kind: kind}
}

func (p *parser) readNumber() Node {
	start := p.at
	size, digits := integer(p.s[start:])
	p.at += size
	switch {
	case digits == 0:
		p.refuse(p.at)
	case digits > mostDigits:
		p.refuse(start)
	}
	return Node{Kind: KNum, S: strings.Clone(p.s[start:p.at])}
}

func (p *parser) readString() Node {
	return Node{Kind: KStr, S: p.readQuoted()}
}

func (p *parser) readList() Node {
	n := Node{Kind: KList}
	p.readParts(']', func() {
		n.L = append(n.L, p.readNode())
	})
	return n
}

func (p *parser) readObject() Node {
	n := Node{Kind: KObj}
	seen := keys{}
	p.readParts('}', func() {
		n.Keys = append(n.Keys, p.readKey(seen))
		p.skip()
		p.expect(":")
		n.L = append(n.L, p.readNode())
	})
	return n
}

// readParts reads a bracket, parts with commas between them, and the closing bracket.
func (p *parser) readParts(closing byte, readPart func()) {
	p.pass()
	p.skip()
	if p.takes(closing) {
		return
	}
	readPart()
	p.skip()
	for !p.takes(closing) {
		p.expect(",")
		readPart()
		p.skip()
	}
}

// readKey reads a key that has not been seen yet.
func (p *parser) readKey(seen keys) string {
	p.skip()
	start := p.at
	s := p.readQuoted()
	if !seen.add(s) {
		p.refuse(start)
	}
	return s
}
