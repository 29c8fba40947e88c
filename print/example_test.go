package print_test

import (
	"testing"

	"signetry/api"
)

// The examples of the chapter, in its order, with the lines that it tells.
func TestChapterExamples(t *testing.T) {
	tidies(t, `syntax="proto3";message M{optional int32 a=1[json_name="k"];reserved 5 to max,9;}`,
		"syntax = \"proto3\";\nmessage M {\n  optional int32 a = 1 [json_name = \"k\"];\n  reserved 5 to max, 9;\n}\n")
	tidies(t, `syntax="proto3";enum E{A=0;reserved-1 to-1;}package p;`,
		"syntax = \"proto3\";\npackage p;\nenum E {\n  A = 0;\n  reserved -1;\n}\n")
	tidies(t, `syntax="proto3";message M{oneof a{}oneof b{E x=1;}oneof c{}}`,
		"syntax = \"proto3\";\nmessage M {\n  oneof a {\n  }\n  oneof b {\n    E x = 1;\n  }\n  oneof c {\n  }\n}\n")
	fails(t, "", 0, api.ErrSyntax)
}

// The example of DOC.md that has a canonical text.
func TestExampleOfScripts(t *testing.T) {
	tidies(t, "syntax='proto3';message M{repeated bool b=1;}", "syntax = \"proto3\";\nmessage M {\n  repeated bool b = 1;\n}\n")
}
