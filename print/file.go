package print

import (
	"signetry/api"
	"signetry/text"
)

// file is a file that is being written.
type file struct {
	*lines
	tree api.Tree
}

// canonical is the canonical text of a tree that is valid; of one that is too
// long, the beginning, which is too long itself.
func canonical(t api.Tree) string {
	f := file{&lines{}, t}
	for _, part := range f.parts() {
		part(f)
	}
	return f.String()
}

// parts is what writes the lines of a file, in order.
func (f file) parts() [6]func(file) {
	return [...]func(file){file.syntax, file.packageName, file.imports, file.messages, file.enums, file.services}
}

func (f file) syntax() {
	f.line(`syntax = "proto3";`)
}

func (f file) packageName() {
	if f.tree.Package != "" {
		f.line("package ", f.tree.Package, ";")
	}
}

func (f file) imports() {
	for _, i := range f.tree.Imports {
		keyword := "import "
		if i.Public {
			keyword = "import public "
		}
		f.line(keyword, quoted(i.Path), ";")
	}
}

func (f file) messages() {
	writeMessages(f.lines, f.tree.Msgs)
}

func (f file) enums() {
	writeEnums(f.lines, f.tree.Enums)
}

func (f file) services() {
	for _, s := range f.tree.Svcs {
		f.open("service", s.Name)
		for _, r := range s.Rpcs {
			f.line("rpc ", r.Name, "(", r.In, ") returns (", r.Out, ");")
		}
		f.close()
	}
}

func quoted(s string) string {
	return text.Quote([]byte(s))
}
