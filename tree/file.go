package tree

import "signetry/api"

const (
	mostServices = api.MaxValues
	mostRpcs     = api.MaxValues
)

// file is a file that is being read.
type file struct {
	*parser
	tree api.Tree
}

func readFile(x *parser) api.Tree {
	f := &file{parser: x}
	f.expect("syntax", "=")
	f.literal(isSyntax)
	f.expect(";")
	known := f.elements()
	for f.next().Kind != api.WordEnd {
		f.element(known, f.refuse)
	}
	return f.tree
}

func isSyntax(s string) bool {
	return s == "proto3"
}

func (f *file) elements() elements {
	return elements{
		";": f.empty, "package": f.packageName, "import": f.imported,
		"message": f.message, "enum": f.enum, "service": f.service,
	}
}

func (f *file) packageName() {
	if f.tree.Package != "" {
		f.refuse()
	}
	f.pass()
	f.tree.Package = f.full(nil, f.next().At)
	f.expect(";")
}

func (f *file) imported() {
	f.room(len(f.tree.Imports), api.MaxFiles)
	f.pass()
	public := f.takes("public")
	w := f.literal(IsPath)
	f.expect(";")
	f.tree.Imports = append(f.tree.Imports, api.Import{Path: w.Text, Public: public, At: w.At})
}

func (f *file) message() {
	f.room(len(f.tree.Msgs), api.MaxMsgs)
	f.tree.Msgs = append(f.tree.Msgs, readMessage(f.parser, 1))
}

func (f *file) enum() {
	f.room(len(f.tree.Enums), api.MaxMsgs)
	f.tree.Enums = append(f.tree.Enums, readEnum(f.parser))
}

func (f *file) service() {
	f.room(len(f.tree.Svcs), mostServices)
	f.tree.Svcs = append(f.tree.Svcs, readService(f.parser))
}

// service is a service that is being read.
type service struct {
	*parser
	def api.SvcDef
}

func readService(x *parser) api.SvcDef {
	x.pass()
	w := x.of(api.WordIdent)
	s := &service{parser: x, def: api.SvcDef{Name: w.Text, At: w.At}}
	s.block(elements{";": s.empty, "rpc": s.rpc}, s.refuse)
	return s.def
}

func (s *service) rpc() {
	s.room(len(s.def.Rpcs), mostRpcs)
	s.pass()
	w := s.of(api.WordIdent)
	r := api.RpcDef{Name: w.Text, At: w.At}
	s.expect("(")
	r.In, r.InAt = s.name()
	s.expect(")", "returns", "(")
	r.Out, r.OutAt = s.name()
	s.expect(")")
	if s.takes("{") {
		s.expect("}")
	} else {
		s.expect(";")
	}
	s.def.Rpcs = append(s.def.Rpcs, r)
}
