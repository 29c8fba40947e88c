package tree

import (
	"math"

	"signetry/api"
	"signetry/text"
)

const (
	mostRanges = api.MaxValues
	mostNames  = api.MaxValues
)

// enum is an enum that is being read.
type enum struct {
	*parser
	def api.EnumDef
}

func readEnum(x *parser) api.EnumDef {
	x.pass()
	w := x.of(api.WordIdent)
	n := &enum{parser: x, def: api.EnumDef{Name: w.Text, At: w.At}}
	n.block(elements{";": n.empty, "reserved": n.reserved, "option": n.refuse}, n.value)
	return n.def
}

func (n *enum) value() {
	n.room(len(n.def.Values), api.MaxValues)
	w := n.of(api.WordIdent)
	n.expect("=")
	v := api.ValueDef{Name: w.Text, Num: n.number(true), At: w.At}
	n.expect(";")
	n.def.Values = append(n.def.Values, v)
}

func (n *enum) reserved() {
	n.def.Ranges, n.def.Names = n.reserve(n.def.Ranges, n.def.Names, bounds{max: math.MaxInt32, signed: true})
}

// bounds is what the numbers of ranges may be: what max stands for, and whether
// they may be negative.
type bounds struct {
	max    int
	signed bool
}

// reserve reads what else a message, or an enum, reserves. What is no literal
// is read as a range, so that it is refused as one.
func (x *parser) reserve(ranges []api.Span, names []api.Text, of bounds) ([]api.Span, []api.Text) {
	x.pass()
	if x.next().Kind == api.WordLit {
		names = x.names(names)
	} else {
		ranges = x.ranges(ranges, of)
	}
	x.expect(";")
	return ranges, names
}

func (x *parser) names(l []api.Text) []api.Text {
	for {
		x.room(len(l), mostNames)
		w := x.literal(text.IsIdent)
		l = append(l, api.Text{S: w.Text, At: w.At})
		if !x.takes(",") {
			return l
		}
	}
}

func (x *parser) ranges(l []api.Span, of bounds) []api.Span {
	for {
		x.room(len(l), mostRanges)
		l = append(l, x.span(of))
		if !x.takes(",") {
			return l
		}
	}
}

func (x *parser) span(of bounds) api.Span {
	at := x.next().At
	lo := x.number(of.signed)
	if !x.takes("to") {
		return api.Span{Lo: lo, Hi: lo, At: at}
	}
	second, hi := x.next().At, of.max
	if !x.takes("max") {
		hi = x.number(of.signed)
	}
	if hi < lo {
		panic(stop{second, api.ErrSyntax})
	}
	return api.Span{Lo: lo, Hi: hi, At: at}
}
