package check

import (
	"slices"

	"signetry/api"
	"signetry/scope"
)

// method is a method of a service, with the methods that are ahead of it there,
// and what its names mean.
type method struct {
	api.RpcDef
	earlier []api.RpcDef
	in, out int
}

func (f file) checkServices(outer string, l []api.SvcDef) {
	for _, s := range l {
		f.checkMethods(s, scope.Scopes(joined(outer, s.Name)))
	}
}

func (f file) checkMethods(s api.SvcDef, scopes []string) {
	for i, def := range s.Rpcs {
		x := &method{def, s.Rpcs[:i], f.meaning(scopes, def.In), f.meaning(scopes, def.Out)}
		rules := [...]rule{
			{x.isTwice, x.At, api.ErrTwice},
			{x.takesNothing, x.InAt, api.ErrName},
			{x.takesOther, x.InAt, api.ErrKind},
			{x.returnsNothing, x.OutAt, api.ErrName},
			{x.returnsOther, x.OutAt, api.ErrKind},
		}
		f.check(rules[:])
	}
}

func (x *method) isTwice() bool {
	return slices.ContainsFunc(x.earlier, func(o api.RpcDef) bool { return o.Name == x.Name })
}

func (x *method) takesNothing() bool   { return x.in == nothing }
func (x *method) takesOther() bool     { return isOther(x.in) }
func (x *method) returnsNothing() bool { return x.out == nothing }
func (x *method) returnsOther() bool   { return isOther(x.out) }

// isOther tells whether a name means something that is no message.
func isOther(meaning int) bool { return meaning != nothing && meaning != api.SymMsg }
