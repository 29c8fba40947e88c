package jtree

import (
	"strconv"
	"strings"

	"signetry/api"
	"signetry/text"
)

// readQuoted reads a string. What is wrong in it is told at its start, but that it is
// not terminated at the end of the text.
func (p *parser) readQuoted() string {
	start := p.at
	p.expect(`"`)
	var b []byte
	for !p.takes('"') {
		if p.at == len(p.s) {
			p.refuse(p.at)
		}
		more, isPart := p.appendPart(b)
		if !isPart {
			p.refuse(start)
		}
		b = more
	}
	if !text.Valid(b) {
		p.refuse(start)
	}
	return string(b)
}

// appendPart appends the next byte of a string, or what the next escape stands for, and
// tells whether it is one.
func (p *parser) appendPart(b []byte) ([]byte, bool) {
	c := p.pass()
	if c != '\\' {
		return append(b, c), c >= ' '
	}
	if p.at == len(p.s) {
		p.refuse(p.at)
	}
	c = p.pass()
	if i := strings.IndexByte(letters, c); i >= 0 {
		return append(b, escaped[i]), true
	}
	if c == 'u' {
		return p.appendRune(b)
	}
	return append(b, c), c == '/'
}

// appendRune appends the rune of an escape of which the digits follow. If it is the
// first half of a pair, the second one has to be there; a half alone is no rune.
func (p *parser) appendRune(b []byte) ([]byte, bool) {
	n := p.digits()
	if n >= 0xd800 && n <= 0xdbff && strings.HasPrefix(p.s[p.at:], `\u`) {
		p.expect(`\u`)
		low := p.digits()
		if low < 0xdc00 || low > 0xdfff {
			return nil, false
		}
		n = 0x10000 + (n-0xd800)<<10 + (low - 0xdc00)
	}
	more, e := text.Rune(nil, n)
	return append(b, more...), e == api.OK
}

// digits reads four hexadecimal digits. If they are not there it is -1, which is no
// rune.
func (p *parser) digits() int {
	if len(p.s)-p.at < 4 {
		return -1
	}
	n, err := strconv.ParseUint(p.s[p.at:p.at+4], 16, 16)
	if err != nil {
		return -1
	}
	p.at += 4
	return int(n)
}
