package tree_test

import (
	"testing"

	"signetry/api"
)

// The examples of the chapter, in its order.
func TestChapterExamples(t *testing.T) {
	parses(t, `syntax = "proto3"; package a.b; import public "x.proto";`,
		api.Tree{Package: "a.b", Imports: []api.Import{{Path: "x.proto", Public: true, At: 46}}})
	fails(t, `syntax="proto3";message M{int32 a=1;map<string,.b.N>c=2;oneof o{E d=3;}reserved 5 to max,"x";}`, 89, api.ErrSyntax)
	parses(t, `syntax="proto3";message M{optional int32 a=1[json_name="k"];}`,
		api.Tree{Msgs: []api.MsgDef{{Name: "M", At: 24, Fields: []api.FieldDef{
			{Name: "a", Type: "int32", Json: "k", Card: api.Opt, Num: 1, Oneof: -1, At: 41, TypeAt: 35, NumAt: 43},
		}}}})
	fails(t, `syntax="proto3";enum E{A=0;B=-5;reserved -9 to -7,max;}`, 50, api.ErrSyntax)
	fails(t, "", 0, api.ErrSyntax)
	fails(t, `syntax="proto2";`, 7, api.ErrSyntax)
}

// The second and the fourth example, without what is wrong in them.
func TestCorrectedExamples(t *testing.T) {
	parses(t, `syntax="proto3";message M{int32 a=1;map<string,.b.N>c=2;oneof o{E d=3;}reserved 5 to max;reserved"x";}`,
		api.Tree{Msgs: []api.MsgDef{{
			Name: "M", At: 24,
			Fields: []api.FieldDef{
				{Name: "a", Type: "int32", Card: api.One, Num: 1, Oneof: -1, At: 32, TypeAt: 26, NumAt: 34},
				{Name: "c", Type: ".b.N", Key: "string", Card: api.Map, Num: 2, Oneof: -1, At: 52, TypeAt: 40, NumAt: 54},
				{Name: "d", Type: "E", Card: api.Opt, Num: 3, Oneof: 0, At: 66, TypeAt: 64, NumAt: 68},
			},
			Oneofs: []api.Text{{S: "o", At: 62}},
			Ranges: []api.Span{{Lo: 5, Hi: 1<<29 - 1, At: 80}},
			Names:  []api.Text{{S: "x", At: 97}},
		}}})
	parses(t, `syntax="proto3";enum E{A=0;B=-5;reserved -9 to -7,3 to max;}`,
		api.Tree{Enums: []api.EnumDef{{
			Name: "E", At: 21,
			Values: []api.ValueDef{{Name: "A", Num: 0, At: 23}, {Name: "B", Num: -5, At: 27}},
			Ranges: []api.Span{{Lo: -9, Hi: -7, At: 41}, {Lo: 3, Hi: 1<<31 - 1, At: 50}},
		}}})
	parses(t, `syntax="proto3";service S{rpc F(.a.M)returns(N);;rpc G(N)returns(.M){}}`,
		api.Tree{Svcs: []api.SvcDef{{
			Name: "S", At: 24,
			Rpcs: []api.RpcDef{{Name: "F", In: ".a.M", Out: "N", At: 30, InAt: 32, OutAt: 45}, {Name: "G", In: "N", Out: ".M", At: 53, InAt: 55, OutAt: 65}},
		}}})
}
