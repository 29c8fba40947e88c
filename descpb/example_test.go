package descpb_test

import (
	"testing"

	"signetry/api"
	"signetry/descpb"
)

// The examples of the chapter, in its order.
func TestChapterExamples(t *testing.T) {
	is(t, api.Set{}, nil)
	is(t, built(t, "a:"), unhex(t, "0A 0B 0A 01 61 62 06 70 72 6F 74 6F 33"))
	is(t, built(t, "a:enum E{Z=0;}"), unhex(t, "0A 17 0A 01 61 2A 0A 0A 01 45 12 05 0A 01 5A 10 00 62 06 70 72 6F 74 6F 33"))
	if s, e := descpb.Decode(unhex(t, "0A 0B 0A 01 61 62 06 70 72 6F 74 6F 32")); e != api.ErrForm || !deepEqual(s, api.Set{}) {
		t.Errorf("proto2: %d, %v", e, s)
	}
}

// The example of the whole program that tells the bytes of a set.
func TestHexExample(t *testing.T) {
	is(t, built(t, "a:message M{int32 a=1;}"), unhex(t, "0a1e0a016122110a014d120c0a0161180120012805520161620670726f746f33"))
}
