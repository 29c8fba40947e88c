package print

import (
	"math"
	"strconv"

	"signetry/api"
)

// enum is an enum that is being written.
type enum struct {
	*lines
	def api.EnumDef
}

func writeEnums(l *lines, all []api.EnumDef) {
	for _, def := range all {
		n := enum{l, def}
		n.open("enum", def.Name)
		for _, part := range n.parts() {
			part(n)
		}
		n.close()
	}
}

// parts is what writes the lines of an enum, in order.
func (n enum) parts() [3]func(enum) {
	return [...]func(enum){enum.values, enum.ranges, enum.names}
}

func (n enum) values() {
	for _, v := range n.def.Values {
		n.line(v.Name, " = ", strconv.Itoa(v.Num), ";")
	}
}

func (n enum) ranges() {
	n.reserved(rangesOf(n.def.Ranges, math.MaxInt32))
}

func (n enum) names() {
	n.reserved(namesOf(n.def.Names))
}

// rangesOf is ranges as they are written, where most is written as max.
func rangesOf(l []api.Span, most int) []string {
	var out []string
	for _, s := range l {
		out = append(out, rangeOf(s, most))
	}
	return out
}

func rangeOf(s api.Span, most int) string {
	lo := strconv.Itoa(s.Lo)
	switch s.Hi {
	case s.Lo:
		return lo
	case most:
		return lo + " to max"
	}
	return lo + " to " + strconv.Itoa(s.Hi)
}

// namesOf is reserved names as they are written.
func namesOf(l []api.Text) []string {
	var out []string
	for _, t := range l {
		out = append(out, quoted(t.S))
	}
	return out
}
